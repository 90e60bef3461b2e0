/- Several texts in one: VdC. What each proves, and its conditions, stands at its own head. -/
import Derived.Test.YtmdekdmcnnbofaaDoorPkVD35
import Derived.Test.YtmdekdmcnnbofaaDoorPkVD24
import Derived.Maps.OwnOps
/- The program's layer 20: the fields of oneofs counted in a map. Conditions: those that each theorem names. -/
namespace Go.Proofs.YtmdekdmcnnbofaaDoor
open Go.RowKit Go.Maps Go.WideMaps Go.WideShapes
set_option linter.unusedVariables false
set_option maxRecDepth 100000

def cntF (done : List (List UInt8)) (t : List UInt8) : Option Int := if t ∈ done then some (done.count t : Int) else none
theorem cntF_more (done : List (List UInt8)) (a t : List UInt8) : (if t = a then some ((done.count a : Int) + 1) else cntF done t) = cntF (done ++ [a]) t := by
  unfold cntF
  by_cases h : t = a
  · subst h
    rw [if_pos rfl, if_pos (by simp), List.count_append]
    simp
  · rw [if_neg h]
    by_cases h2 : t ∈ done
    · rw [if_pos h2, if_pos (by simp [h2]), List.count_append]
      have : [a].count t = 0 := List.count_eq_zero.mpr (by simp [h])
      rw [this]; rfl
    · rw [if_neg h2, if_neg (by simp [h2, h])]
theorem map_look {D : DataW Unit} {done : List (List UInt8)} {t : List UInt8} {c : Int} (h : MapIs D (cntF done)) (ha : D.atKey (.string t) (.lit (.int .i64 0)) = .lit (.int .i64 c)) : c = (done.count t : Int) := by
  by_cases hm : t ∈ done
  · have := (h.2 t).2 (.lit (.int .i64 0)) (done.count t : Int) (by unfold cntF; rw [if_pos hm])
    rw [this] at ha
    injection ha with ha
    injection ha with _ ha
    exact ha.symm
  · have e := (h.2 t).1
    unfold cntF at e
    rw [if_neg hm] at e
    rw [atKey_of_not_has e] at ha
    injection ha with ha
    injection ha with _ ha
    rw [← ha, List.count_eq_zero.mpr hm]
    rfl
theorem put_look {D : DataW Unit} {t : List UInt8} {c x : Int} (h : IsMap D) (ha : (D.put (.string t) (.lit (.int .i64 x))).atKey (.string t) (.lit (.int .i64 0)) = .lit (.int .i64 c)) : c = x := by
  rw [atKey_put_same h (show WideAt.IsKeyLit (.string t) from trivial)] at ha
  injection ha with ha
  injection ha with _ ha
  exact ha.symm
theorem alone_is (done : List (List UInt8)) (t : List UInt8) : aloneB done t = (decide (t = []) || decide (done.count t = 0)) := by
  unfold aloneB
  congr 1
  by_cases h : t ∈ done
  · rw [decide_eq_true h, decide_eq_false (fun e => List.count_eq_zero.mp e h)]; rfl
  · rw [decide_eq_false h, decide_eq_true (List.count_eq_zero.mpr h)]; rfl

theorem palones_any (w : World) :
    Calls Tryd.prog 18 #[] w fun e w' => e = .returned (.func (.func 37) #[] #[.pointer (some ⟨w.heap.size + 1, 0, none⟩)]) ∧ w'.heap[w.heap.size + 1]? = some (.cells #[.map (some w.heap.size)] 75 (0, 0)) ∧ MapAt w' w.heap.size 0 (cntF []) ∧ Below w.heap.size w w' := by
  obtain ⟨w2, hw2⟩ : ∃ w2, w2 = (w.alloc (.map #[] 0)).alloc (.cells #[.map (some w.heap.size)] 75) := ⟨_, rfl⟩
  have hb2 : Below w.heap.size w w2 := by rw [hw2]; exact ((Below.refl _ w).alloc (Nat.le_refl _) _).alloc (by simp) _
  have hk : w2.heap[w.heap.size + 1]? = some (.cells #[.map (some w.heap.size)] 75 (0, 0)) := by rw [hw2]; have := heap_alloc_new (w.alloc (.map #[] 0)) (.cells #[.map (some w.heap.size)] 75); rwa [World.size_alloc] at this
  have hm0 : MapAt w2 w.heap.size 0 (cntF []) := by rw [hw2]; exact ⟨_, (World.ownsMap_made w _ _ _).alloc _, mapIs_congr mapIs_empty (fun t => by unfold cntF; rw [if_neg (by simp)])⟩
  have HM0 := Lib.hid hm0
  have HK := Lib.hid hk
  have HB2 := Lib.hid hb2
  have HW2 := Lib.hid hw2
  have hmm := @run_makeMap Tryd.prog
  clear hm0 hk hb2 hw2
  go_enter Tryd.func18, Tryd.ntmps18
  go_wp2
  go_ret
  rw [← HW2.out]
  exact ⟨rfl, HK.out, HM0.out, HB2.out⟩

set_option maxHeartbeats 4000000 in
theorem palone_any (w : World) (pm bm k : Nat) (f : Fd) (done : List (List UInt8)) (hp : w.heap[pm]? = some (.cells #[.map (some bm)] 75 (0, 0))) (hm : MapAt w bm k (cntF done)) (hk : k ≤ 10000) (hd : done.length ≤ 10000) (hl : f.one.length ≤ 140737488351232) (hpb : pm ≠ bm) :
    Calls Tryd.prog 37 #[fdV f, .pointer (some ⟨pm, 0, none⟩)] w fun e w' => e = .returned (.bool (aloneB done f.one)) ∧ Touch (fun i => i = bm) w w' ∧ MapAt w' bm (k + 1) (cntF (done ++ [f.one])) := by
  have HAL := Lib.hid (alone_is done f.one)
  have HMORE := Lib.hid (cntF_more done f.one)
  have hcnt : done.count f.one ≤ 10000 := Nat.le_trans (List.count_le_length) hd
  have HKEY := Lib.hid (str_key hl)
  unfold fdV
  obtain ⟨w1, hw1⟩ : ∃ w1, w1 = w.alloc (.cells #[.string (strOf f.name), .int .i64 f.num, .int .i64 f.ty, .string (strOf f.ref), .bool f.rep, .bool f.loose, .string (strOf f.one)] 35) := ⟨_, rfl⟩
  have HBX := Lib.hid (bx_start w #[.string (strOf f.name), .int .i64 f.num, .int .i64 f.ty, .string (strOf f.ref), .bool f.rep, .bool f.loose, .string (strOf f.one)] 35)
  rw [← hw1] at HBX
  have hp1 := (HBX.out.b_bel.block _ (lt_of_block hp)).trans hp
  obtain ⟨D, hown, hD⟩ := hm.bel HBX.out.b_bel
  obtain ⟨c, hrun, hat, _⟩ := hown.lookup_int str_keyed Tryd.underlying75 Tryd.underlying3 (zero_int _) HKEY.out
  obtain rfl := map_look hD hat
  obtain ⟨d, hdd⟩ : ∃ d : Int, d = (done.count f.one : Int) := ⟨_, rfl⟩
  have HOW := Lib.hid hown
  have HMD := Lib.hid hD
  have hbm := (hm.lt)
  have HLT := Lib.hid hbm
  have he := tw_facts f.one
  obtain ⟨oe, hoe⟩ : ∃ oe, oe = decide (f.one = []) := ⟨_, rfl⟩
  rw [← hoe] at he HAL
  have h0 : decide (done.count f.one = 0) = decide (d = 0) := by rw [hdd]; rw [decide_eq_decide]; omega
  rw [h0] at HAL
  rw [← hdd] at hrun HMORE
  have hd0 : 0 ≤ d := by omega
  have hd1 : d ≤ 10000 := by omega
  have hwr : IntKind.i64.wrap (d + 1) = d + 1 := IntWalk.i64_in _ (by omega)
  have hwr2 : wrap64 (d + 1) = d + 1 := by unfold wrap64; omega
  have r0 := obj_cell hp1 0
  have r6 := obj_cell HBX.out.b_blk 6
  have HP1 := Lib.hid hp1
  have HW1 := Lib.hid hw1
  generalize strOf f.one = so at *
  generalize strOf f.name = s0 at *
  generalize strOf f.ref = s3 at *
  have ho : (oe = true ∧ so.toList = [] ∧ so.toList.isEmpty = true) ∨ (oe = false ∧ ¬ so.toList = [] ∧ so.toList.isEmpty = false) := by
    cases oe with
    | true => exact .inl ⟨rfl, beq_iff_eq.1 he, by rw [beq_iff_eq.1 he]; rfl⟩
    | false => exact .inr ⟨rfl, (fun e => by rw [e] at he; cases he), (by rw [List.isEmpty_eq_false_iff]; intro e; rw [e] at he; cases he)⟩
  have HDD := Lib.hid hdd
  have HKK : Hid (k ≤ 10000) := Lib.hid hk
  clear hoe he h0 hp hm hd hl hcnt hp1 hown hD hat hbm hdd hk
  rw [hw1] at r0 r6 hrun
  clear hw1
  rcases ho with ⟨rfl, o3, o2⟩ | ⟨rfl, o3, o2⟩
  · go_enter Tryd.func37, Tryd.ntmps37
    go_wp2_with (at_mapUpdate; (with_reducible rw [← HW1.out]); refine wpList_mapUpdate_own _ rfl _ _ _ 75 rfl 9 3 str_keyed Tryd.underlying75 _ bm k _ rfl HOW.out (by unfold maxLen; have := HKK.out; omega) _ _ _ rfl rfl HKEY.out _ [] (plainElem_int Tryd.underlying3 (WalkArith.wf_i64 (by omega))) ?_; intro W3 hown3 hgrow3; have HOW3 := Lib.hid hown3; have HG3 := Lib.hid hgrow3; have hfb := (hgrow3.block _ (lt_of_block HBX.out.b_blk) (fun e => by have := Option.some.inj e; have := HLT.out; omega)).trans HBX.out.b_blk; have s6 := obj_cell hfb 6; clear hown3 hgrow3 hfb)
    go_ret
    exact ⟨by rw [HAL.out]; rfl, (Touch.of_below _ HBX.out.b_bel).grown HG3.out (fun j hj => by cases hj; exact .inl rfl), ⟨_, HOW3.out, mapIs_congr (mapIs_put HMD.out f.one (d + 1)) HMORE.out⟩⟩
  · have HPB := Lib.hid hpb
    by_cases hz : d = 0
    · have e1 : ((d + 1 : Int) == 1) = true := beq_iff_eq.2 (by omega)
      have e2 : (d + 1 : Int) = 1 := by omega
      rw [decide_eq_true hz] at HAL
      go_enter Tryd.func37, Tryd.ntmps37
      go_wp2_with (at_mapUpdate; (with_reducible rw [← HW1.out]); refine wpList_mapUpdate_own _ rfl _ _ _ 75 rfl 9 3 str_keyed Tryd.underlying75 _ bm k _ rfl HOW.out (by unfold maxLen; have := HKK.out; omega) _ _ _ rfl rfl HKEY.out _ [] (plainElem_int Tryd.underlying3 (WalkArith.wf_i64 (by omega))) ?_; intro W3 hown3 hgrow3; have HOW3 := Lib.hid hown3; have HG3 := Lib.hid hgrow3; have hfb := (hgrow3.block _ (lt_of_block HBX.out.b_blk) (fun e => by have := Option.some.inj e; have := HLT.out; omega)).trans HBX.out.b_blk; have hfp := (hgrow3.block _ (lt_of_block HP1.out) (fun e => HPB.out (Option.some.inj e))).trans HP1.out; have s6 := obj_cell hfb 6; have s0' := obj_cell hfp 0; obtain ⟨c3, hrun3, hat3, _⟩ := hown3.lookup_int str_keyed Tryd.underlying75 Tryd.underlying3 (zero_int _) HKEY.out; obtain rfl := put_look HMD.out.1 hat3; clear hown3 hgrow3 hfb hfp hat3)
      go_ret
      exact ⟨by rw [HAL.out]; rfl, (Touch.of_below _ HBX.out.b_bel).grown HG3.out (fun j hj => by cases hj; exact .inl rfl), ⟨_, HOW3.out, by have h := mapIs_congr (mapIs_put HMD.out f.one (d + 1)) HMORE.out; rw [e2] at h; exact h⟩⟩
    · have e1 : ((d + 1 : Int) == 1) = false := beq_false_of_ne (by omega)
      have e2 : ¬ (d + 1 : Int) = 1 := by omega
      rw [decide_eq_false hz] at HAL
      go_enter Tryd.func37, Tryd.ntmps37
      go_wp2_with (at_mapUpdate; (with_reducible rw [← HW1.out]); refine wpList_mapUpdate_own _ rfl _ _ _ 75 rfl 9 3 str_keyed Tryd.underlying75 _ bm k _ rfl HOW.out (by unfold maxLen; have := HKK.out; omega) _ _ _ rfl rfl HKEY.out _ [] (plainElem_int Tryd.underlying3 (WalkArith.wf_i64 (by omega))) ?_; intro W3 hown3 hgrow3; have HOW3 := Lib.hid hown3; have HG3 := Lib.hid hgrow3; have hfb := (hgrow3.block _ (lt_of_block HBX.out.b_blk) (fun e => by have := Option.some.inj e; have := HLT.out; omega)).trans HBX.out.b_blk; have hfp := (hgrow3.block _ (lt_of_block HP1.out) (fun e => HPB.out (Option.some.inj e))).trans HP1.out; have s6 := obj_cell hfb 6; have s0' := obj_cell hfp 0; obtain ⟨c3, hrun3, hat3, _⟩ := hown3.lookup_int str_keyed Tryd.underlying75 Tryd.underlying3 (zero_int _) HKEY.out; obtain rfl := put_look HMD.out.1 hat3; clear hown3 hgrow3 hfb hfp hat3)
      go_ret
      exact ⟨by rw [HAL.out]; rfl, (Touch.of_below _ HBX.out.b_bel).grown HG3.out (fun j hj => by cases hj; exact .inl rfl), ⟨_, HOW3.out, mapIs_congr (mapIs_put HMD.out f.one (d + 1)) HMORE.out⟩⟩
end Go.Proofs.YtmdekdmcnnbofaaDoor
