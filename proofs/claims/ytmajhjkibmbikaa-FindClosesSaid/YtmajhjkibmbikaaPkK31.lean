/- Several texts in one: FxJ, FxK. What each proves, and its conditions, stands at its own head. -/
import Derived.Test.YtmajhjkibmbikaaPkK27
import Derived.Test.YtmajhjkibmbikaaPkK22
import Derived.Test.YtmajhjkibmbikaaPkK29
import Derived.Test.YtmajhjkibmbikaaPkK30
import Derived.Test.YtmajhjkibmbikaaPkK1
import Derived.Maps.AppendAt
/- The program's layer 16: Kin, and what its function does with the law's own. Conditions: those that each theorem names. -/
namespace Go.Proofs.Ytmajhjkibmbikaa
open Go.RowKit
set_option linter.unusedVariables false
set_option maxRecDepth 100000

theorem take_snoc_get {α : Type} {l : List α} {k : Nat} {x : α} (h : l[k]? = some x) : l.take (k + 1) = l.take k ++ [x] := split_take h

set_option maxHeartbeats 4000000 in
theorem kinlaw_any (w : World) (pb pm b0 : Nat) (v : Value) (most : Int) (l : List (List UInt8)) (t : List UInt8) (hx : w.heap[pb]? = some (.cells #[v] 39 (0, 0))) (hm : w.heap[pm]? = some (.cells #[.int .i64 most] 3 (0, 0))) (ho : w.ownsRow b0 9 1 v l.length (txts l)) (h0 : b0 ≤ pb) (hpm : pm < b0) (hlen : l.length ≤ 1000) :
    Calls Try.prog 40 #[.string (strOf t), .pointer (some ⟨pb, 0, none⟩), .pointer (some ⟨pm, 0, none⟩)] w fun e w' => e = .returned (.bool (!decide (((l.length + 1 : Nat) : Int) = most))) ∧
      ∃ v', w'.heap[pb]? = some (.cells #[v'] 39 (0, 0)) ∧ w'.ownsRow b0 9 1 v' (l.length + 1) (txts (l ++ [t])) ∧ Touch (fun i => i = pb ∨ v.ownBlock = some i) w w' ∧ (v'.ownBlock = v.ownBlock ∨ ∃ g, v'.ownBlock = some g ∧ w.heap.size ≤ g) := by
  obtain ⟨i, hi, hz, hsize, hby⟩ := info_str_parts
  obtain ⟨st, hst⟩ : ∃ st, st = strOf t := ⟨_, rfl⟩
  have HST := Lib.hid hst
  rw [← hst]
  obtain ⟨Av, cv, rfl, _⟩ := own_form ho
  have r0 := obj_cell hx 0
  have r1 := obj_cell hm 0
  have hpb := lt_of_block hx
  have hne : ¬ pm = pb := by omega
  have hne' : ¬ pb = pm := by omega
  obtain ⟨k, hk⟩ : ∃ k, k = l.length := ⟨_, rfl⟩
  rw [← hk] at ho hlen r0 hx ⊢
  have HK := Lib.hid hk
  have HX := Lib.hid hx
  have HM := Lib.hid hm
  have HO := Lib.hid ho
  have HB1 := Lib.hid ((Below.refl _ w).alloc (Nat.le_refl _) (.cells #[.string st] 9))
  have hnw : (w.alloc (.cells #[.string st] 9)).heap[w.heap.size]? = some (.cells #[.string st] 9 (0, 0)) := heap_alloc_new w _
  have HNW := Lib.hid hnw
  clear hst hx hm ho hk hnw
  have fin : ∀ v' w2, w2.ownsRow b0 9 1 v' (k + 1) (txts l ++ txts [t]) → (w.alloc (.cells #[.string st] 9)).grownBy w2 (Value.slice Av k cv).ownBlock → (v'.ownBlock = (Value.slice Av k cv).ownBlock ∨ v'.ownBlock = some (w.alloc (.cells #[.string st] 9)).heap.size) →
      w2.cell? ⟨pb, 0, none⟩ = some (.slice Av k cv) ∧ w2.frozen? ⟨pb, 0, none⟩ = false ∧ w2.cell? ⟨pm, 0, none⟩ = some (.int .i64 most) ∧ ((w2.setCell ⟨pb, 0, none⟩ v').heap[pb]? = some (.cells #[v'] 39 (0, 0)) ∧ (w2.setCell ⟨pb, 0, none⟩ v').ownsRow b0 9 1 v' (k + 1) (txts (l ++ [t])) ∧ Touch (fun i => i = pb ∨ (Value.slice Av k cv).ownBlock = some i) w (w2.setCell ⟨pb, 0, none⟩ v') ∧ (v'.ownBlock = (Value.slice Av k cv).ownBlock ∨ ∃ g, v'.ownBlock = some g ∧ w.heap.size ≤ g)) := by
    intro v' w2 ho2 hg hl
    have n1 : (Value.slice Av k cv).ownBlock ≠ some pb := own_other HO.out HX.out (by decide)
    have n2 : (Value.slice Av k cv).ownBlock ≠ some pm := fun e => by have := (HO.out.lt pm e).1; omega
    have e1 : w2.heap[pb]? = some (.cells #[.slice Av k cv] 39 (0, 0)) := (hg.block _ (by have := HB1.out.size; omega) (fun e => n1 e.symm)).trans ((HB1.out.block _ hpb).trans HX.out)
    have e2 : w2.heap[pm]? = some (.cells #[.int .i64 most] 3 (0, 0)) := (hg.block _ (by have := HB1.out.size; omega) (fun e => n2 e.symm)).trans ((HB1.out.block _ (lt_of_block HM.out)).trans HM.out)
    have n3 : v'.ownBlock ≠ some pb := own_other ho2 e1 (by decide)
    refine ⟨obj_cell e1 0, obj_free e1 0, obj_cell e2 0, obj_set e1 0 v', own_block (by rw [txts_append]; exact ho2) (fun j hj => Below.heap_setCell _ _ _ _ (fun e => n3 (by rw [hj]; exact congrArg some e))), (((Touch.of_below _ HB1.out).grown hg (fun j hj => .inl (.inr hj))).set (.inl (.inl rfl)) v'), ?_⟩
    rcases hl with e | e
    · exact .inl e
    · exact .inr ⟨_, e, by simp⟩
  have HFIN := Lib.hid fin
  clear fin
  by_cases hmo : ((k + 1 : Nat) : Int) = most
  · have g1 : decide (((k + 1 : Nat) : Int) = most) = true := decide_eq_true hmo
    have g2 : (((k : Int) + 1) == most) = true := by rw [show (k : Int) + 1 = most from (by omega)]; exact beq_self_eq_true most
    have g3 : (k : Int) + 1 = most := by omega
    rw [g1]
    clear g1 hmo
    go_enter Try.func40, Try.ntmps40
    go_wp2_with (at_builtin; refine wpList_append_own_at _ rfl _ _ 39 rfl b0 9 i (.string ByteArray.empty) 1 16 Try.underlying39 hi hz hsize hby rfl (by decide) _ k (txts l) rfl (own_below HO.out HB1.out) ⟨w.heap.size, 0, none⟩ 1 1 (txts [t]) rfl rfl (by rw [show txts [t] = [.string st] by rw [HST.out]; rfl]; exact cell_one_new w _ _) (txts_one _) (by unfold maxLen; omega) (by omega) (by have := HB1.out.size; omega) ?_; intro v2 w2 ho2 hg2 _ hl2; obtain ⟨A2, c2, rfl, _⟩ := own_form ho2; obtain ⟨d0, d1, d2, d3⟩ := HFIN.out _ w2 ho2 hg2 hl2; have HD3 := Lib.hid d3; clear d3 ho2 hg2 hl2)
    go_ret
    exact ⟨rfl, _, HD3.out⟩
  · have g1 : decide (((k + 1 : Nat) : Int) = most) = false := decide_eq_false hmo
    have g2 : (((k : Int) + 1) == most) = false := beq_false_of_ne (by omega)
    have g3 : ¬ (k : Int) + 1 = most := by omega
    have g4 : ((k : Int) + 1 != most) = true := by rw [bne, g2]; rfl
    have G4 : Hid (((k : Int) + 1 != most) = true) := Lib.hid g4
    rw [g1]
    clear g1 hmo g4
    go_enter Try.func40, Try.ntmps40
    go_wp2_with (at_builtin; refine wpList_append_own_at _ rfl _ _ 39 rfl b0 9 i (.string ByteArray.empty) 1 16 Try.underlying39 hi hz hsize hby rfl (by decide) _ k (txts l) rfl (own_below HO.out HB1.out) ⟨w.heap.size, 0, none⟩ 1 1 (txts [t]) rfl rfl (by rw [show txts [t] = [.string st] by rw [HST.out]; rfl]; exact cell_one_new w _ _) (txts_one _) (by unfold maxLen; omega) (by omega) (by have := HB1.out.size; omega) ?_; intro v2 w2 ho2 hg2 _ hl2; obtain ⟨A2, c2, rfl, _⟩ := own_form ho2; obtain ⟨d0, d1, d2, d3⟩ := HFIN.out _ w2 ho2 hg2 hl2; have HD3 := Lib.hid d3; clear d3 ho2 hg2 hl2)
    go_ret
    exact ⟨ret_bool' G4.out, _, HD3.out⟩

theorem valuesst_any (A : Option Addr) (n cap : Nat) (w : World) :
    Calls Try.prog 54 #[.slice A n cap] w fun e w' => e = .returned (.func (.func 64) #[] #[.pointer (some ⟨w.heap.size, 0, none⟩)]) ∧ w' = w.alloc (.cells #[.slice A n cap] 39) := by
  go_enter Try.func54, Try.ntmps54
  go_wp2
  go_ret
  exact ⟨rfl, rfl⟩

set_option maxHeartbeats 4000000 in
theorem valuesst_go (w : World) (nb : Nat) (A : Option Addr) (n cap : Nat) (ts : List (List UInt8)) (hn : n = ts.length) (kf : Nat) (caps : Array Value) (henter : Enters Try.prog kf) (J : Nat → World → Prop) (X : World → Prop)
    (hR : ∀ k W, J k W → W.heap[nb]? = some (.cells #[.slice A n cap] 39 (0, 0)) ∧ Sl W A cap (txts ts))
    (hY : ∀ k t W, ts[k]? = some t → J k W → Calls Try.prog kf (#[.string (strOf t)] ++ caps) W fun e W' => (e = .returned (.bool true) ∧ J (k + 1) W') ∨ (e = .returned (.bool false) ∧ X W')) (h0 : J 0 w) :
    Calls Try.prog 64 #[.func (.func kf) #[] caps, .pointer (some ⟨nb, 0, none⟩)] w fun e w' => (∃ v, e = .returned v) ∧ (J ts.length w' ∨ X w') := by
  have hent : ∀ (args : Array Value) (w : World), (callFunc kf args).run Try.prog w = .ok (.enter kf args) w := henter
  have r0 := obj_cell (hR 0 w h0).1 0
  have q1 := (hR 0 w h0).2.le
  have q2 := (hR 0 w h0).2.max
  rw [txts_length, ← hn] at q1
  unfold maxLen at q2
  have HR := Lib.hid hR
  have HY := Lib.hid hY
  have HN := Lib.hid hn
  have H0 := Lib.hid h0
  clear hR hY hn h0 henter
  go_enter Try.func64, Try.ntmps64
  go_wp2
  clear r0
  go_loopg [7] n (fun gz x0 wr => ∃ k : Nat, x0 = .int .i64 (k : Int) ∧ k + gz = n ∧ J k wr)
  case atStart => exact ⟨0, rfl, by omega, H0.out⟩
  case round =>
    obtain ⟨k, rfl, hk, hJ⟩ := hrel
    have HJ := Lib.hid hJ
    clear hJ
    obtain ⟨g0, hg0⟩ : ∃ g0, g0 = gk := ⟨_, rfl⟩
    subst hg0
    by_cases hltk : k < n
    · have tk : decide ((k : Int) < (n : Int)) = true := decide_eq_true (by omega)
      obtain ⟨t, ht⟩ : ∃ t, ts[k]? = some t := ⟨_, List.getElem?_eq_getElem (by have := HN.out; omega)⟩
      obtain ⟨ge, oe, rfl, c0⟩ := (HR.out k wr HJ.out).2.at_ k (.string (strOf t)) (by rw [txts, List.getElem?_map, ht]; rfl)
      have HC := Lib.hid (HY.out k t wr ht HJ.out)
      obtain ⟨st, hst⟩ : ∃ st, st = strOf t := ⟨_, rfl⟩
      rw [← hst] at c0 HC
      clear hst ht
      go_wp2_with (go_at_fn kf; refine HC.out.mono ?_; rintro e w2 (⟨rfl, hJ2⟩ | ⟨rfl, hX2⟩))
      · have HJ2 := Lib.hid hJ2
        clear hJ2
        go_wp2
        go_roundg (g0 - 1)
        case measure => omega
        case rel => exact ⟨k + 1, by go_num, by omega, HJ2.out⟩
      · have HX2 := Lib.hid hX2
        clear hX2
        go_wp2
        refine ⟨rfl, _, results_none rfl _ _ _, ?_⟩
        exact ⟨⟨_, rfl⟩, .inr HX2.out⟩
    · have tk : decide ((k : Int) < (n : Int)) = false := decide_eq_false (by omega)
      have hkn : k = ts.length := by have := HN.out; omega
      subst hkn
      go_wp2
      go_end0
      exact ⟨⟨_, rfl⟩, .inl HJ.out⟩

set_option maxHeartbeats 8000000 in
/-- Kin: a function that goes through a box of the call's own. -/
theorem kin_any {S : Nat → Nat → Prop} (w : World) {A A2 : Option Addr} {n cap n2 cap2 : Nat} {s : Sc} (h : ScAt S w A n cap A2 n2 cap2 s) (hS : ∀ k g, S k g → g < w.heap.size) (hok : ScOk s) (hsm : smallT s = true) :
    Calls Try.prog 39 #[.agg #[.slice A n cap, .slice A2 n2 cap2]] w fun e w' => ∃ (nb : Nat) (An : Option Addr) (cn : Nat), e = .returned (.func (.func 64) #[] #[.pointer (some ⟨nb, 0, none⟩)]) ∧ Below w.heap.size w w' ∧
      w'.heap[nb]? = some (.cells #[.slice An (kinT s).length cn] 39 (0, 0)) ∧ w'.ownsRow w.heap.size 9 1 (.slice An (kinT s).length cn) (kinT s).length (txts (kinT s)) ∧ w.heap.size ≤ nb := by
  obtain ⟨Q, hQ⟩ := msQ_of h.s_m
  have HBX := Lib.hid (bx_start w #[.slice A n cap, .slice A2 n2 cap2] 25)
  have hb1 := HBX.out.b_bel
  have hq1 : MsQ S (w.alloc (.cells #[.slice A n cap, .slice A2 n2 cap2] 25)) A2 s.msgs Q := by
    refine ⟨fun i x hx => ?_, fun i x hx => lst_keep (hQ.q_f i x hx) fdR_keep (fun _ h => h) (bel_keep hb1), fun i x hx => lst_keep (hQ.q_b i x hx) inR_keep (fun _ h => h) (bel_keep hb1)⟩
    obtain ⟨g, off, e, hc⟩ := hQ.q_at i x hx
    exact ⟨g, off, e, fun W hW => hc W (fun k p v hs hv => hW k p v hs (cell_under hb1 hv))⟩
  have HRE := Lib.hid (reached_any _ (scAt_bel h hb1) (fun k g hk => by have := hS k g hk; rw [World.size_alloc]; omega) hok hsm hq1)
  have r0 := obj_cell HBX.out.b_blk 0
  have r1 := obj_cell HBX.out.b_blk 1
  have HSM := Lib.hid hsm
  have HB1 := Lib.hid hb1
  clear h hS hok hsm hQ hb1 hq1
  go_enter Try.func39, Try.ntmps39
  go_wp2_with (go_at_call 52; refine HRE.out.mono ?_; rintro e w2 ⟨v, ix, rfl, ho, hgd, hnm, hb2⟩; obtain ⟨Av, cv, rfl, hle, hmx, _⟩ := own_form ho; have HO := Lib.hid ho; have HGD := Lib.hid hgd; have HNM := Lib.hid hnm; have HB2 := Lib.hid (HB1.out.trans (hb2.mono HB1.out.size)); clear ho hgd hnm hb2)
  obtain ⟨nl, hnl⟩ : ∃ nl, nl = ix.length := ⟨_, rfl⟩
  have HNL := Lib.hid hnl
  have h200 : nl ≤ 200 := by have := goodIx_len HGD.out; have := (small_sizes HSM.out).2.1; omega
  rw [← hnl] at hle ⊢
  unfold maxLen at hmx
  clear hnl r0 r1
  go_loopg [3, 9] nl (fun gz x0 x1 wr => ∃ k : Nat, x1 = .int .i64 (k : Int) ∧ k + gz = nl ∧ ∃ vl, x0 = vl ∧ wr.ownsRow w2.heap.size 9 1 vl k (txts ((namesOf s.msgs ix).take k)) ∧ Below w2.heap.size w2 wr)
  case atStart => exact ⟨0, rfl, by omega, _, rfl, World.ownsRow_nil _ _ _ _, Below.refl _ _⟩
  case round =>
    obtain ⟨k, rfl, hk, vl, rfl, hown, hbel⟩ := hrel
    have HOWL := Lib.hid hown
    have HBEL := Lib.hid hbel
    clear hown hbel
    obtain ⟨g0, hg0⟩ : ∃ g0, g0 = gk := ⟨_, rfl⟩
    subst hg0
    by_cases hltk : k < nl
    · have tk : decide ((k : Int) < (nl : Int)) = true := decide_eq_true (by omega)
      obtain ⟨a, ha⟩ : ∃ a, ix[k]? = some a := ⟨_, List.getElem?_eq_getElem (by have := HNL.out; omega)⟩
      obtain ⟨m, hm, _⟩ := HGD.out.1 a (List.mem_of_getElem? ha)
      have HNG := Lib.hid (namesOf_get ha hm)
      have HTK := Lib.hid (take_snoc_get HNG.out)
      have hnsm := name_small HSM.out (List.mem_of_getElem? hm)
      have how := own_below HO.out HBEL.out
      obtain ⟨g, cap', hv, hb, hcp, hcm, hgl⟩ := own_pos how (by have := HNL.out; omega)
      have hrow : msM s.msgs Q a = [.string (strOf m.name), .slice (Q a).1 m.fields.length (Q a).2.1, .slice (Q a).2.2.1 m.barred.length (Q a).2.2.2] := msM_some hm
      have u0 := own_cell how (g := g) (by rw [hv]; rfl) ((flat_get (msM s.msgs Q) 3 (msM_len s.msgs Q) ix k a 0 ha (by omega)).trans (by rw [hrow]; rfl))
      have u1 := own_cell how (g := g) (by rw [hv]; rfl) ((flat_get (msM s.msgs Q) 3 (msM_len s.msgs Q) ix k a 1 ha (by omega)).trans (by rw [hrow]; rfl))
      have u2 := own_cell how (g := g) (by rw [hv]; rfl) ((flat_get (msM s.msgs Q) 3 (msM_len s.msgs Q) ix k a 2 ha (by omega)).trans (by rw [hrow]; rfl))
      rw [Nat.add_zero] at u0
      rw [Nat.mul_comm] at u0 u1 u2
      injection hv with hv1 hv2 hv3
      subst hv1
      have HCL := Lib.hid (fun u => sclone_any (strOf m.name) u (by rw [str_size]; omega))
      obtain ⟨sn, hsn⟩ : ∃ sn, sn = strOf m.name := ⟨_, rfl⟩
      have HSN := Lib.hid hsn
      rw [← hsn] at u0 HCL
      generalize (Q a).1 = B1 at *
      generalize (Q a).2.1 = d1 at *
      generalize (Q a).2.2.1 = B2 at *
      generalize (Q a).2.2.2 = d2 at *
      generalize m.fields.length = nf0 at *
      generalize m.barred.length = nb0 at *
      have HNB := Lib.hid (bx_start wr #[.string sn, .slice B1 nf0 d1, .slice B2 nb0 d2] 32)
      have n0 := obj_cell HNB.out.b_blk 0
      have HBA := Lib.hid (HBEL.out.trans (HNB.out.b_bel.mono HBEL.out.size))
      have HLK : Hid (((namesOf s.msgs ix).take k).length ≤ 1000 ∧ k ≤ 1000) := Lib.hid ⟨by rw [List.length_take]; omega, by omega⟩
      have hkl : ((namesOf s.msgs ix).take k).length = k := by rw [List.length_take, namesOf_len]; have := HNL.out; omega
      have HKL := Lib.hid hkl
      clear ha hm how hrow hsn hcp hcm hgl hb hv3 hnsm hkl
      go_wp2_with (first
        | (go_at_call 53; refine (HCL.out _).mono ?_; rintro e w3 ⟨rfl, hb3⟩; have HB3 := Lib.hid hb3; clear hb3)
        | (at_builtin; refine wpList_append_sl rfl _ _ rfl w2.heap.size _ _ _ rfl (own_below (own_below HOWL.out HNB.out.b_bel) (HB3.out.alloc HB3.out.size (.cells #[.string sn] 9))) _ 1 1 [m.name] rfl rfl (sl_txt1 w3 _ m.name sn HSN.out) (by have := HLK.out.1; show _ + 1 ≤ 1000000; omega) (by have := HBA.out.size; have := HB3.out.size; simp; omega) ?_; intro vl2 w4 ho4 hg4; have HOL := Lib.hid ho4; have HBL := Lib.hid ((HBA.out.trans ((HB3.out.alloc HB3.out.size (.cells #[.string sn] 9)).mono HBA.out.size)).grown hg4 (by have := HBA.out.size; have := HB3.out.size; simp; omega) (fun k hk => (HOWL.out.lt k hk).1)); clear ho4 hg4))
      go_roundg (g0 - 1)
      case measure => omega
      case rel => exact ⟨k + 1, by go_num, by omega, _, rfl, (by rw [HTK.out]; have h := HOL.out; rw [HKL.out] at h; exact h), HBL.out⟩
    · have tk : decide ((k : Int) < (nl : Int)) = false := decide_eq_false (by omega)
      have hkn : k = nl := by omega
      subst hkn
      have hfull : (namesOf s.msgs ix).take k = kinT s := by rw [List.take_of_length_le (by rw [namesOf_len]; have := HNL.out; omega)]; exact HNM.out
      have hlen : k = (kinT s).length := by rw [← HNM.out, namesOf_len]; exact HNL.out
      have ho := HOWL.out
      rw [hfull] at ho
      obtain ⟨An, cn, rfl, _⟩ := own_form ho
      have HON := Lib.hid ho
      have HLEN := Lib.hid hlen
      clear ho hfull hlen
      go_wp2_with (go_at_call 54; refine (valuesst_any _ _ _ _).mono ?_; rintro e w5 ⟨rfl, hw5⟩; have HW5 := Lib.hid hw5; clear hw5)
      go_ret
      have hb5 : Below wr.heap.size wr w5 := by rw [HW5.out]; exact (Below.refl _ _).alloc (Nat.le_refl _) _
      have hws := HB2.out.size
      have hwr := HBEL.out.size
      have ho5 := own_below HON.out hb5
      rw [HLEN.out] at ho5
      refine ⟨wr.heap.size, An, cn, rfl, (HB2.out.trans (HBEL.out.mono HB2.out.size)).trans (hb5.mono (by omega)), ?_, own_mono ho5 (by omega), by omega⟩
      rw [HW5.out, ← HLEN.out]
      exact heap_alloc_new _ _
end Go.Proofs.Ytmajhjkibmbikaa

/- Layer 16 as it is asked for: FindOk, FindKinOk, out of the code. Conditions: none. -/
namespace Go.Proofs.Ytmajhjkibmbikaa
open Go.RowKit
set_option linter.unusedVariables false
set_option maxRecDepth 100000

theorem kinCut_all {l : List (List UInt8)} {most : Int} (h : ∀ j : Nat, 1 ≤ j → j ≤ l.length → (j : Int) ≠ most) : kinCut l most = l := by
  unfold kinCut
  rw [if_neg]
  rintro ⟨h1, h2⟩
  exact h most.toNat (by omega) (by omega) (by omega)
theorem kinCut_at {l : List (List UInt8)} {most : Int} {k : Nat} (hk : k + 1 ≤ l.length) (hm : ((k + 1 : Nat) : Int) = most) : kinCut l most = l.take (k + 1) := by
  unfold kinCut
  rw [if_pos ⟨by omega, by omega⟩]
  rw [← hm, Int.toNat_natCast]

/-- While names are handed on. -/
def KinJ (w0 : World) (B b0 pb pm nb : Nat) (most : Int) (An : Option Addr) (cn : Nat) (l : List (List UInt8)) (k : Nat) (W : World) : Prop :=
  (∀ j : Nat, 1 ≤ j → j ≤ k → (j : Int) ≠ most) ∧ Below b0 w0 W ∧ W.heap[pm]? = some (.cells #[.int .i64 most] 3 (0, 0)) ∧ W.heap[nb]? = some (.cells #[.slice An l.length cn] 39 (0, 0)) ∧ W.ownsRow B 9 1 (.slice An l.length cn) l.length (txts l) ∧
    ∃ v, W.heap[pb]? = some (.cells #[v] 39 (0, 0)) ∧ W.ownsRow b0 9 1 v k (txts (l.take k)) ∧ ∀ g, v.ownBlock = some g → (Value.slice An l.length cn).ownBlock ≠ some g
def KinX (w0 : World) (b0 pb : Nat) (most : Int) (l : List (List UInt8)) (W : World) : Prop :=
  Below b0 w0 W ∧ ∃ v, W.heap[pb]? = some (.cells #[v] 39 (0, 0)) ∧ W.ownsRow b0 9 1 v (kinCut l most).length (txts (kinCut l most))

theorem kinJ_step (w0 : World) (B b0 pb pm nb : Nat) (most : Int) (An : Option Addr) (cn : Nat) (l : List (List UInt8)) (k : Nat) (t : List UInt8) (W : World) (ht : l[k]? = some t) (h : KinJ w0 B b0 pb pm nb most An cn l k W) (h1 : pm < b0) (h2 : b0 ≤ pb) (h3 : pb ≠ nb) (hlen : l.length ≤ 1000) :
    Calls Try.prog 40 #[.string (strOf t), .pointer (some ⟨pb, 0, none⟩), .pointer (some ⟨pm, 0, none⟩)] W fun e W' => (e = .returned (.bool true) ∧ KinJ w0 B b0 pb pm nb most An cn l (k + 1) W') ∨ (e = .returned (.bool false) ∧ KinX w0 b0 pb most l W') := by
  obtain ⟨a1, a2, a3, a4, a5, v, a6, a7, a8⟩ := h
  have hk := (List.getElem?_eq_some_iff.mp ht).1
  have hkl : (l.take k).length = k := by rw [List.length_take]; omega
  refine (kinlaw_any W pb pm b0 v most (l.take k) t a6 a3 (by rw [hkl]; exact a7) h2 h1 (by omega)).mono ?_
  rintro e W' ⟨rfl, v', b1, b2, b3, b4⟩
  rw [hkl] at b2 ⊢
  rw [← take_snoc_get ht] at b2
  have hbel : Below b0 w0 W' := a2.trans (b3.below (Nat.le_trans h2 (Nat.le_of_lt (lt_of_block a6))) (fun i hi => by rcases hi with hi | hi; omega; exact (a7.lt i hi).1))
  by_cases hm : ((k + 1 : Nat) : Int) = most
  · rw [decide_eq_true hm]
    refine .inr ⟨rfl, hbel, v', b1, ?_⟩
    rw [kinCut_at (by omega) hm, show (l.take (k + 1)).length = k + 1 by rw [List.length_take]; omega]
    exact b2
  · rw [decide_eq_false hm]
    have n1 : v.ownBlock ≠ some nb := own_other a7 a4 (by decide)
    have n2 : (Value.slice An l.length cn).ownBlock ≠ some pb := own_other a5 a6 (by decide)
    have hpmv : v.ownBlock ≠ some pm := fun e => by have := (a7.lt pm e).1; omega
    refine .inl ⟨rfl, fun j h5 h6 => ?_, hbel, (b3.block pm (lt_of_block a3) (fun e => by rcases e with e | e; omega; exact hpmv e)).trans a3, (b3.block nb (lt_of_block a4) (fun e => by rcases e with e | e; exact h3 e.symm; exact n1 e)).trans a4,
      own_block a5 (fun g hg => b3.block g (a5.lt g hg).2 (fun e => by rcases e with e | e; exact n2 (e ▸ hg); exact a8 g e hg)), v', b1, b2, fun g hg => ?_⟩
    · by_cases hj : j = k + 1
      · subst hj; exact hm
      · exact a1 j h5 (by omega)
    · rcases b4 with e | ⟨g', e, hg'⟩
      · exact a8 g (e ▸ hg)
      · rw [e] at hg
        obtain rfl := Option.some.inj hg
        intro hh
        have := (a5.lt _ hh).2
        omega

theorem find_kin_ok : FindKinOk (fun _ => True) where
  fkin := by
    intro S w A n cap A2 n2 cap2 s pb pm b0 most v _ h hok hsm hS h1 h2 hm hpb hpm hown
    have hpbl := lt_of_block hpb
    refine (kin_any w h (fun k g hk => by have := hS k g hk; omega) hok hsm).mono ?_
    rintro e w' ⟨nb, An, cn, rfl, hb, hnb, hon, hlt⟩
    refine ⟨_, _, rfl, enters_of Try.func64 (by kernel_rfl) rfl, hb, ?_⟩
    have hlen : (kinT s).length ≤ 1000 := by have := kinOk_le (kinT_ok s); have := (small_sizes hsm).2.1; omega
    have h0 : KinJ w' w.heap.size b0 pb pm nb most An cn (kinT s) 0 w' :=
      ⟨fun j h5 h6 => by omega, Below.refl _ _, (hb.block _ (lt_of_block hpm)).trans hpm, hnb, hon, v, (hb.block _ hpbl).trans hpb, own_below hown hb, fun g hg hh => by have := (hown.lt g hg).2; have := (hon.lt g hh).1; omega⟩
    refine (valuesst_go w' nb An (kinT s).length cn (kinT s) rfl 40 #[.pointer (some ⟨pb, 0, none⟩), .pointer (some ⟨pm, 0, none⟩)] (enters_of Try.func40 (by kernel_rfl) rfl) (KinJ w' w.heap.size b0 pb pm nb most An cn (kinT s)) (KinX w' b0 pb most (kinT s))
      (fun k W hJ => ⟨hJ.2.2.2.1, by
        obtain ⟨_, A', c', e, hs⟩ := Sl.own hJ.2.2.2.2.1
        rw [txts_length] at e
        injection e with e1 e2 e3
        subst e1 e3
        exact hs⟩)
      (fun k t W ht hJ => kinJ_step w' w.heap.size b0 pb pm nb most An cn (kinT s) k t W ht hJ h1 h2 (by omega) hlen) h0).mono ?_
    rintro e W ⟨he, hJ | hX⟩
    · obtain ⟨a1, a2, a3, a4, a5, v', a6, a7, a8⟩ := hJ
      refine ⟨he, a2, v', a6, ?_⟩
      rw [kinCut_all a1]
      rwa [List.take_length] at a7
    · obtain ⟨a2, v', a6, a7⟩ := hX
      exact ⟨he, a2, v', a6, a7⟩

theorem find_ok : FindOk (fun _ => True) where
  feride := fun _ _ _ _ => trivial
  flive := fun w _ => fdlive_any (fun _ _ _ _ => trivial) find_kin_ok (fun S w A n cap A2 n2 cap2 s t _ h hok hs ht => fxuses_any w h t hs) w trivial
  fmsg := fun S w A n cap A2 n2 cap2 s t _ h hok hs ht => fxmessage_any w h t
  fenum := fun S w A n cap A2 n2 cap2 s t _ h hok hs ht => fxenum_any w h t
  fuses := fun S w A n cap A2 n2 cap2 s t _ h hok hs ht => fxuses_any w h t hs
  ffield := fun S T w A1 nf ca A2 nb cb x t _ hl hl2 hnf hnb hok hn ht => fxfield_any w _ hl hl2 hnf hnb t
  fnumb := fun S T w A1 nf ca A2 nb cb x t _ hl hl2 hnf hnb hok hn ht => fxnumber_any w _ hl hl2 hnf hnb t
  ffree := fun S T w A1 nf ca A2 nb cb x t _ hl hl2 hnf hnb hok hn ht => fxfree_any w _ hl hl2 hnf hnb t
  fmems := fun S T w A1 nf ca A2 nb cb x t _ hl hl2 hnf hnb hok hn ht => (fxmembers_any w _ hl hl2 hnf hnb t (by omega)).mono (by
    rintro e w' ⟨A, cap, n, rfl, hn', hl', hb⟩
    exact ⟨_, A, cap, n, rfl, hn', hl', hb⟩)
end Go.Proofs.Ytmajhjkibmbikaa
