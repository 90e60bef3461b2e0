/- Several texts in one: SxK. What each proves, and its conditions, stands at its own head. -/
import Derived.Test.YtjogamffdbedkaaGreatDoorPkA42
import Derived.Test.YtjogamffdbedkaaGreatDoorPkA10
/- What the program's layer 15 asks of a whole schema, on: names there twice, what fields refer to. Conditions: those that each theorem names. -/
namespace Go.Proofs.YtjogamffdbedkaaGreatDoor
open Go.RowKit
set_option linter.unusedVariables false
set_option maxRecDepth 100000

theorem own_once {w : World} {base : Nat} {v : Value} {l : List (List UInt8)} (h : w.ownsRow base 9 1 v l.length (txts l)) (hl : l.length ≤ 1000000) :
    Calls Tryz.prog 79 #[v] w fun e w' => e = .returned (.bool (onceB l)) ∧ Below w.heap.size w w' := by
  obtain ⟨_, A, cap, rfl, hs⟩ := Sl.own h
  rw [txts_length]
  exact ponce_any w hs rfl hl

set_option maxHeartbeats 8000000 in
theorem stwice_any {S : Nat → Nat → Prop} (w : World) {A A2 : Option Addr} {n cap n2 cap2 : Nat} {s : Sc} (h : ScAt S w A n cap A2 n2 cap2 s) (hfew : Few s) (hf0 : fieldsT s = 0) :
    Calls Tryz.prog 44 #[.agg #[.slice A n cap, .slice A2 n2 cap2]] w fun e w' => e = .returned (.bool (twiceT s)) ∧ Below w.heap.size w w' := by
  obtain ⟨m1, m2, m3, m4⟩ := scAt_max h
  have hm1 : n ≤ 1000 := by have := hfew.few_e; have := h.s_ne; omega
  have hm2 : n2 ≤ 1000 := by have := hfew.few_m; have := h.s_nm; omega
  have HBX0 := Lib.hid (bx_start w #[.slice A n cap, .slice A2 n2 cap2] 25)
  have HBX := Lib.hid (bx_drew HBX0.out 1)
  have HE := Lib.hid (fun u (hb : Below w.heap.size w u) => senums_any u (scAt_bel h hb) hm1)
  have HM := Lib.hid (fun u (hb : Below w.heap.size w u) => smsgs_any u (scAt_bel h hb) hm2)
  have HS := Lib.hid (fun u (hb : Below w.heap.size w u) => ssome_any u (scAt_bel h hb) 80 81 (fun _ _ => rfl) (fun _ _ => rfl) twiceE clashM (fun x hx A1 c1 wr hl _ => stwice_e wr _ hl rfl (by have := hfew.few_v x hx; omega)) (fun x hx A1 c1 A3 c3 wr hl _ _ => sclash_m wr _ hl rfl (by have := (hfew.few_f x hx).1; omega)))
  have HK : Hid (∀ u, Bx w u (.cells #[.slice A n cap, .slice A2 n2 cap2] 25 (0, 0)) → u.cell? ⟨w.heap.size, 0, none⟩ = some (.slice A n cap) ∧ u.cell? ⟨w.heap.size, 1, none⟩ = some (.slice A2 n2 cap2)) := Lib.hid (fun u hb => ⟨obj_cell hb.b_blk 0, obj_cell hb.b_blk 1⟩)
  have HNE : Hid (n = (eNames s).length) := Lib.hid (by unfold eNames; rw [List.length_map]; exact h.s_ne)
  have HNM : Hid (n2 = (mNames s).length) := Lib.hid (by unfold mNames; rw [List.length_map]; exact h.s_nm)
  have HM1 := Lib.hid hm1
  have HM2 := Lib.hid hm2
  obtain ⟨r, hr⟩ : ∃ r, r = onceB (eNames s ++ mNames s) := ⟨_, rfl⟩
  obtain ⟨v, hv⟩ : ∃ v, v = (s.enums.any twiceE || s.msgs.any clashM) := ⟨_, rfl⟩
  have HR := Lib.hid hr
  have HD : Hid (twiceT s = (!r || v)) := Lib.hid (by rw [hr, hv, twice_plain hf0])
  rw [← hv] at HS
  rw [HD.out]
  have HNL : Hid ((eNames s ++ mNames s).length ≤ 1000000) := Lib.hid (by rw [List.length_append, ← HNE.out, ← HNM.out]; omega)
  have r0 := obj_cell (HBX0.out).b_blk 0
  have r1 := obj_cell (HBX0.out).b_blk 1
  clear h hfew HBX0 hm1 hm2 hr hv HD hf0
  cases r
  · go_enter Tryz.func44, Tryz.ntmps44
    go_wp2
    refine wp_region_noPanic ?_
    refine wp_region_held_drew (S := fun w' => w'.cell? ⟨w.heap.size, 0, none⟩ = some (.slice A n cap) ∧ w'.cell? ⟨w.heap.size, 1, none⟩ = some (.slice A2 n2 cap2)) (by kernel_rfl) ⟨r0, r1⟩ (fun hHeld => ?_)
    refine take_at (i := 0) (v := ?_) rfl (by kernel_rfl) (by kernel_rfl) (by kernel_rfl) (fun _ _ _ h => h) (Or.inl ⟨by rfl, ?_⟩) hHeld ?_
    case refine_2 => (intro w hSw; (try dsimp only at hSw); go_simp <;> with_reducible rfl)
    try simp only [Act.put, List.setIfInBounds_toArray, List.set_cons_zero, List.set_cons_succ]
    refine take_at (i := 2) (v := ?_) rfl (by kernel_rfl) (by kernel_rfl) (by kernel_rfl) (fun _ _ _ h => h) (Or.inl ⟨by rfl, ?_⟩) hHeld ?_
    case refine_2 => (intro w hSw; (try dsimp only at hSw); go_simp <;> with_reducible rfl)
    try simp only [Act.put, List.setIfInBounds_toArray, List.set_cons_zero, List.set_cons_succ]
    refine wpAnyH_ready (rs := [1]) (by kernel_rfl) (by simp) ?_
    refine ready_at (i := 1) rfl (fun K hK => ?_)
    go_simp
    (go_at_call 73; refine (HE.out _ HBX.out.b_bel).mono ?_; rintro e w1 ⟨Ae, ce, rfl, hs, hb⟩; replace HBX := Lib.hid (bx_step HBX.out hb); have HS1 := Lib.hid hs; clear hs hb)
    clear hHeld
    refine hK.out _ _ (HK.out _ HBX.out) (fun hHeld => ?_)
    clear hK K
    try simp only [Act.put, List.setIfInBounds_toArray, List.set_cons_zero, List.set_cons_succ]
    refine wpAnyH_ready (rs := [3]) (by kernel_rfl) (by simp) ?_
    refine ready_at (i := 3) rfl (fun K hK => ?_)
    go_simp
    (go_at_call 74; refine (HM.out _ HBX.out.b_bel).mono ?_; rintro e w2 ⟨Am, cm, rfl, hs, hb⟩; replace HBX := Lib.hid (bx_step HBX.out hb); replace HS1 := Lib.hid (HS1.out.below hb (Nat.le_refl _)); have HS2 := Lib.hid hs; clear hs hb)
    clear hHeld
    refine hK.out _ _ (HK.out _ HBX.out) (fun hHeld => ?_)
    clear hK K
    try simp only [Act.put, List.setIfInBounds_toArray, List.set_cons_zero, List.set_cons_succ]
    refine wpAnyH_ready (rs := [4]) (by kernel_rfl) (by simp) ?_
    refine ready_at (i := 4) rfl (fun K hK => ?_)
    go_simp
    clear hHeld
    refine hK.out _ _ (HK.out _ (bx_step HBX.out (up_box _ _))) (fun hHeld => ?_)
    clear hK K
    try simp only [Act.put, List.setIfInBounds_toArray, List.set_cons_zero, List.set_cons_succ]
    refine wpAnyH_ready (rs := [5]) (by kernel_rfl) (by simp) ?_
    refine ready_at (i := 5) rfl (fun K hK => ?_)
    go_simp
    (go_at_call 72; refine (sconcat_any _ _ (obj_cell (heap_alloc_new w2 _) 0) (obj_cell (heap_alloc_new w2 _) 1) (HS1.out.below (up_box w2 _) (Nat.le_refl _)) (HS2.out.below (up_box w2 _) (Nat.le_refl _)) HNE.out HNM.out HM1.out HM2.out).mono ?_; rintro e w3 ⟨v0, rfl, ho, hb⟩; replace HBX := Lib.hid (bx_step (bx_step HBX.out (up_box w2 _)) hb); have HON := Lib.hid (own_once ho HNL.out); rw [← HR.out] at HON; clear ho hb)
    clear hHeld
    refine hK.out _ _ (HK.out _ HBX.out) (fun hHeld => ?_)
    clear hK K
    try simp only [Act.put, List.setIfInBounds_toArray, List.set_cons_zero, List.set_cons_succ]
    refine wpAnyH_ready (rs := [6]) (by kernel_rfl) (by simp) ?_
    refine ready_at (i := 6) rfl (fun K hK => ?_)
    go_simp
    (go_at_call 79; refine HON.out.mono ?_; rintro e w4 ⟨rfl, hb⟩; replace HBX := Lib.hid (bx_step HBX.out hb); clear hb)
    clear hHeld
    refine hK.out _ _ (HK.out _ HBX.out) (fun hHeld => ?_)
    clear hK K
    try simp only [Act.put, List.setIfInBounds_toArray, List.set_cons_zero, List.set_cons_succ]
    refine take_at (i := 7) (v := ?_) rfl (by kernel_rfl) (by kernel_rfl) (by kernel_rfl) (fun _ _ _ h => h) (Or.inl ⟨by rfl, ?_⟩) hHeld ?_
    case refine_2 => (intro w hSw; (try dsimp only at hSw); go_simp <;> with_reducible rfl)
    try simp only [Act.put, List.setIfInBounds_toArray, List.set_cons_zero, List.set_cons_succ]
    refine take_at (i := 8) (v := ?_) rfl (by kernel_rfl) (by kernel_rfl) (by kernel_rfl) (fun _ _ _ h => h) (Or.inl ⟨by rfl, ?_⟩) hHeld ?_
    case refine_2 => (intro w hSw; (try dsimp only at hSw); go_simp <;> with_reducible rfl)
    try simp only [Act.put, List.setIfInBounds_toArray, List.set_cons_zero, List.set_cons_succ]
    refine take_at (i := 9) (v := undef) rfl (by kernel_rfl) (by kernel_rfl) (by kernel_rfl) (fun _ _ _ h => h) (Or.inr ⟨by rfl, rfl⟩) hHeld ?_
    try simp only [Act.put, List.setIfInBounds_toArray, List.set_cons_zero, List.set_cons_succ]
    refine take_at (i := 10) (v := undef) rfl (by kernel_rfl) (by kernel_rfl) (by kernel_rfl) (fun _ _ _ h => h) (Or.inr ⟨by rfl, rfl⟩) hHeld ?_
    try simp only [Act.put, List.setIfInBounds_toArray, List.set_cons_zero, List.set_cons_succ]
    refine take_at (i := 11) (v := ?_) rfl (by kernel_rfl) (by kernel_rfl) (by kernel_rfl) (fun _ _ _ h => h) (Or.inl ⟨by rfl, ?_⟩) hHeld ?_
    case refine_2 => (intro w hSw; (try dsimp only at hSw); go_simp <;> with_reducible rfl)
    try simp only [Act.put, List.setIfInBounds_toArray, List.set_cons_zero, List.set_cons_succ]
    refine take_at (i := 12) (v := ?_) rfl (by kernel_rfl) (by kernel_rfl) (by kernel_rfl) (fun _ _ _ h => h) (Or.inl ⟨by rfl, ?_⟩) hHeld ?_
    case refine_2 => (intro w hSw; (try dsimp only at hSw); go_simp <;> with_reducible rfl)
    try simp only [Act.put, List.setIfInBounds_toArray, List.set_cons_zero, List.set_cons_succ]
    refine wpAnyH_done (by kernel_rfl) ?_ _
    refine NoPanic.normal ?_
    clear hHeld
    go_wp2
    go_ret
    exact ⟨rfl, HBX.out.b_bel⟩
  · go_enter Tryz.func44, Tryz.ntmps44
    go_wp2
    go_region_held3 (fun w' => w'.cell? ⟨w.heap.size, 0, none⟩ = some (.slice A n cap) ∧ w'.cell? ⟨w.heap.size, 1, none⟩ = some (.slice A2 n2 cap2))
      (first | exact HK.out _ HBX.out | exact HK.out _ (bx_step HBX.out (up_box _ _)))
      (first
        | (go_at_call 73; refine (HE.out _ HBX.out.b_bel).mono ?_; rintro e w1 ⟨Ae, ce, rfl, hs, hb⟩; replace HBX := Lib.hid (bx_step HBX.out hb); have HS1 := Lib.hid hs; clear hs hb)
        | (go_at_call 74; refine (HM.out _ HBX.out.b_bel).mono ?_; rintro e w2 ⟨Am, cm, rfl, hs, hb⟩; replace HBX := Lib.hid (bx_step HBX.out hb); replace HS1 := Lib.hid (HS1.out.below hb (Nat.le_refl _)); have HS2 := Lib.hid hs; clear hs hb)
        | (go_at_call 72; refine (sconcat_any _ _ (obj_cell (heap_alloc_new w2 _) 0) (obj_cell (heap_alloc_new w2 _) 1) (HS1.out.below (up_box w2 _) (Nat.le_refl _)) (HS2.out.below (up_box w2 _) (Nat.le_refl _)) HNE.out HNM.out HM1.out HM2.out).mono ?_; rintro e w3 ⟨v0, rfl, ho, hb⟩; replace HBX := Lib.hid (bx_step (bx_step HBX.out (up_box w2 _)) hb); have HON := Lib.hid (own_once ho HNL.out); rw [← HR.out] at HON; clear ho hb)
        | (go_at_call 79; refine HON.out.mono ?_; rintro e w4 ⟨rfl, hb⟩; replace HBX := Lib.hid (bx_step HBX.out hb); clear hb)
        | (go_at_call 67; refine (HS.out _ HBX.out.b_bel).mono ?_; rintro e w5 ⟨rfl, hb⟩; replace HBX := Lib.hid (bx_step HBX.out hb); clear hb))
    go_wp2
    go_ret
    exact ⟨rfl, HBX.out.b_bel⟩
end Go.Proofs.YtjogamffdbedkaaGreatDoor
