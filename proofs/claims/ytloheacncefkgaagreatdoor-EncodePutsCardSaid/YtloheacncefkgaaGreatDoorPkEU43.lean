/- Several texts in one: EnB. What each proves, and its conditions, stands at its own head. -/
import Derived.Test.YtloheacncefkgaaGreatDoorPkEU42
import Derived.Test.YtloheacncefkgaaGreatDoorPkEU18
import Derived.Test.YtloheacncefkgaaGreatDoorPkEU23
import Derived.Test.YtloheacncefkgaaGreatDoorPkEU2
import Derived.Test.YtloheacncefkgaaGreatDoorPkEU30
import Derived.Laws.MakeOwn
/- The program's layer 21: Pack, numbers. Conditions: those that each theorem names. -/
namespace Go.Proofs.YtloheacncefkgaaGreatDoor
open Go.RowKit
set_option linter.unusedVariables false
set_option maxRecDepth 100000

set_option maxHeartbeats 4000000 in
theorem pbare_any (ty : Int) (n : Nat) (w : World) (env : ScEnv w) (ht : Int64 ty) (hn : n < 18446744073709551616) : Calls Tryz.prog 39 #[.int .i64 ty, .int .u64 (n : Int)] w (Gives w (wireB ty n)) := by
 have HTO := Lib.hid (pnto_any ty n w env ht hn)
 have HWI := Lib.hid (fun w' (hb : Below w.heap.size w w') => pwire_any ty w' (env.rides hb))
 have hlt := to_lt ty n hn
 have hways := wire_ways ty n
 have h5 := @to_wire5 ty n
 clear env ht hn
 obtain ⟨u, hu⟩ : ∃ u, u = toT ty n := ⟨_, rfl⟩
 obtain ⟨wi, hwi⟩ : ∃ wi, wi = wireT ty := ⟨_, rfl⟩
 obtain ⟨bs, hbs⟩ : ∃ bs, bs = wireB ty n := ⟨_, rfl⟩
 rw [← hu] at HTO hlt hways h5
 rw [← hwi] at HWI hways h5
 rw [← hbs] at hways ⊢
 clear hu hwi hbs
 rcases hways with ⟨rfl, he⟩ | ⟨rfl, he⟩ | ⟨h1, h5', he⟩
 ·have HP := Lib.hid (fun w => put8_new u w hlt)
  rw [← he] at HP
  clear he h5
  go_enter Tryz.func39, Tryz.ntmps39
  go_wp2_with (first
   | (go_at_call 90; refine HTO.out.mono ?_; rintro e w2 ⟨rfl, hb⟩; have HB := Lib.hid hb; clear hb)
   | (go_at_call 91; refine (HWI.out _ HB.out).mono ?_; rintro e w3 ⟨rfl, hb⟩; replace HB := Lib.hid (HB.out.trans (hb.mono HB.out.size)); clear hb)
   | (go_at_call 93; refine (HP.out _).mono ?_; rintro e w4 ⟨A, cap, rfl, hB, hb, _⟩; have HBS := Lib.hid hB; replace HB := Lib.hid (HB.out.trans (hb.mono HB.out.size)); clear hB hb))
  go_ret
  exact ⟨_, _, rfl, HBS.out, HB.out⟩
 ·have h32 := h5 rfl
  have HP := Lib.hid (fun w => put4_new u w h32)
  rw [← he] at HP
  have hwr : IntKind.u32.wrap (u : Int) = (u : Int) := IntWalk.u32_in _ (by omega)
  clear he h5
  go_enter Tryz.func39, Tryz.ntmps39
  go_wp2_with (first
   | (go_at_call 90; refine HTO.out.mono ?_; rintro e w2 ⟨rfl, hb⟩; have HB := Lib.hid hb; clear hb)
   | (go_at_call 91; refine (HWI.out _ HB.out).mono ?_; rintro e w3 ⟨rfl, hb⟩; replace HB := Lib.hid (HB.out.trans (hb.mono HB.out.size)); clear hb)
   | (go_at_call 92; refine (HP.out _).mono ?_; rintro e w4 ⟨A, cap, rfl, hB, hb, _⟩; have HBS := Lib.hid hB; replace HB := Lib.hid (HB.out.trans (hb.mono HB.out.size)); clear hB hb))
  go_ret
  exact ⟨_, _, rfl, HBS.out, HB.out⟩
 ·have HP := Lib.hid (fun w => put_new u w hlt)
  rw [← he] at HP
  clear he h5
  go_enter Tryz.func39, Tryz.ntmps39
  go_wp2_with (first
   | (go_at_call 90; refine HTO.out.mono ?_; rintro e w2 ⟨rfl, hb⟩; have HB := Lib.hid hb; clear hb)
   | (go_at_call 91; refine (HWI.out _ HB.out).mono ?_; rintro e w3 ⟨rfl, hb⟩; replace HB := Lib.hid (HB.out.trans (hb.mono HB.out.size)); clear hb)
   | (go_at_call 94; refine (HP.out _).mono ?_; rintro e w4 ⟨A, cap, rfl, hB, hb, _⟩; have HBS := Lib.hid hB; replace HB := Lib.hid (HB.out.trans (hb.mono HB.out.size)); clear hB hb))
  go_ret
  exact ⟨_, _, rfl, HBS.out, HB.out⟩
theorem number_64 {ty : Int} (h : numberT ty = true) : Int64 ty := by
 unfold Int64
 rcases ty_cases ty with rfl | rfl | rfl | rfl | rfl | rfl | rfl | rfl | rfl | rfl | rfl | rfl | rfl | rfl | rfl | h1 | h1
 all_goals first | decide | (exfalso; rw [out_number (by omega)] at h; cases h)
theorem bx_grown {w wr w2 : World} {o : Obj} {row : Option Nat} (h : Bx w wr o) (hg : wr.grownBy w2 row) (hr : ∀ k, row = some k → w.heap.size + 1 ≤ k) : Bx w w2 o :=
 ⟨h.b_bel.grown hg h.b_bel.size (fun k e => by have := hr k e; omega), (hg.block _ (lt_of_block h.b_blk) (fun e => by have := hr _ e.symm; omega)).trans h.b_blk⟩
set_option maxHeartbeats 4000000 in
theorem ppack_any (f : Fd) (w : World) (env : ScEnv w) {A : Option Addr} {cap n : Nat} {l : List Nat} (h : Sl w A cap (u64s l)) (hn : n = l.length) (hl : l.length ≤ 1000000000000) (hb : ∀ x ∈ l, x < 18446744073709551616) :
 Calls Tryz.prog 15 #[fdV f, .slice A n cap] w fun e w' => e = .returned (.string (strOf (packB f l))) ∧ Below w.heap.size w w' := by
 obtain ⟨i0, hi, hz0, hz1, hz2⟩ := info_parts info_u8
 have q1 := h.le
 have q2 := h.max
 unfold maxLen at q2
 rw [u64s_length, ← hn] at q1
 have HN := Lib.hid hn
 have HM := Lib.hid (fun u (hb : Below w.heap.size w u) => pnumber_any f.ty u (env.rides hb))
 have HBA := Lib.hid (fun x u (hnum : numberT f.ty = true) (hb : Below w.heap.size w u) (hx : x < 18446744073709551616) => pbare_any f.ty x u (env.rides hb) (number_64 hnum) hx)
 have HPK : Hid (packB f l = if numberT f.ty = true then l.flatMap (wireB f.ty) else []) := Lib.hid rfl
 have HS := Lib.hid h
 have HL := Lib.hid hl
 have HBN := Lib.hid hb
 clear h hn hl hb env
 obtain ⟨name, num, ty, ref, rep, loose, one⟩ := f
 unfold fdV
 dsimp only at HM HBA HPK ⊢
 obtain ⟨sn, hsn⟩ : ∃ sn, sn = strOf name := ⟨_, rfl⟩
 obtain ⟨sr, hsr⟩ : ∃ sr, sr = strOf ref := ⟨_, rfl⟩
 obtain ⟨so, hso⟩ : ∃ so, so = strOf one := ⟨_, rfl⟩
 rw [← hsn, ← hsr, ← hso]
 obtain ⟨pk, hpk⟩ : ∃ pk, pk = packB ⟨name, num, ty, ref, rep, loose, one⟩ l := ⟨_, rfl⟩
 rw [← hpk] at HPK ⊢
 clear hsn hsr hso hpk
 have HBX := Lib.hid (bx_start w #[.string sn, .int .i64 num, .int .i64 ty, .string sr, .bool rep, .bool loose, .string so] 44)
 have HK : Hid (∀ u, Bx w u (.cells #[.string sn, .int .i64 num, .int .i64 ty, .string sr, .bool rep, .bool loose, .string so] 44 (0, 0)) → u.cell? ⟨w.heap.size, 2, none⟩ = some (.int .i64 ty)) := Lib.hid (fun u hu => obj_cell hu.b_blk 2)
 have r0 := HK.out _ HBX.out
 go_enter Tryz.func15, Tryz.ntmps15
 cases hnum : numberT ty with
 | false =>
   rw [hnum, if_neg (by decide)] at HPK
   rw [hnum] at HM
   go_wp2_with (go_at_call 38; refine (HM.out _ HBX.out.b_bel).mono ?_; rintro e w2 ⟨rfl, hb⟩; replace HBX := Lib.hid (bx_step HBX.out hb); clear hb)
   go_ret
   exact ⟨by rw [HPK.out]; rfl, HBX.out.b_bel⟩
 | true =>
   rw [hnum, if_pos rfl] at HPK
   rw [hnum] at HM
   have HBE := Lib.hid (fun x u => HBA.out x u hnum)
   clear HBA hnum
   go_wp2_with (go_at_call 38; refine (HM.out _ HBX.out.b_bel).mono ?_; rintro e w2 ⟨rfl, hb⟩; replace HBX := Lib.hid (bx_step HBX.out hb); clear hb)
   have HO := Lib.hid (World.ownsRow_nil w2 (w.heap.size + 1) 5 1)
   go_loopw [5, 14] (fun v x wr => ∃ (k m : Nat) (vo : Value), k ≤ n ∧ x = .int .i64 (k : Int) ∧ v = vo ∧ wr.ownsRow (w.heap.size + 1) 5 1 vo m (cellsOf ((l.take k).flatMap (wireB ty))) ∧ Bx w wr (.cells #[.string sn, .int .i64 num, .int .i64 ty, .string sr, .bool rep, .bool loose, .string so] 44 (0, 0))) (fun _ x _ => n - (intOf x).toNat)
   case atStart => exact ⟨0, 0, _, Nat.zero_le _, rfl, rfl, HO.out, HBX.out⟩
   case round =>
    obtain ⟨k, m, vo, hk, rfl, rfl, hown, hbx⟩ := hrel
    have HBW := Lib.hid hbx
    have r1 := HK.out wr hbx
    by_cases hlt : k < n
    ·have g1 : decide ((k : Int) < (n : Int)) = true := decide_eq_true (by omega)
     obtain ⟨x, hx⟩ : ∃ x, l[k]? = some x := ⟨_, List.getElem?_eq_getElem (by have := HN.out; omega)⟩
     have hx64 := HBN.out x (List.mem_of_getElem? hx)
     obtain ⟨g, off, rfl, c0⟩ := HS.out.at_ k (.int .u64 (x : Int)) (by rw [u64s, List.getElem?_map, hx]; rfl)
     have c1 := cell_under hbx.b_bel c0
     have HBR := Lib.hid (HBE.out x wr hbx.b_bel hx64)
     have hlen := pack_len (ty := ty) (l := l.take k) (fun y hy => HBN.out y (List.mem_of_mem_take hy))
     have hlk : (l.take k).length ≤ 1000000000000 := by rw [List.length_take]; have := HL.out; omega
     have hwl := wireB_len (ty := ty) hx64
     have HFT := Lib.hid (flatm_take (g := wireB ty) hx)
     obtain ⟨pre, hpre⟩ : ∃ pre, pre = (l.take k).flatMap (wireB ty) := ⟨_, rfl⟩
     rw [← hpre] at hown HFT hlen
     obtain ⟨hm, Av, capv, hv, hBs⟩ := Bs.own hown
     subst hv
     have HLE : Hid (pre.length + (wireB ty x).length ≤ 140737488355328) := Lib.hid (by omega)
     obtain ⟨fb, hfb⟩ : ∃ fb, fb = wireB ty x := ⟨_, rfl⟩
     rw [← hfb] at HFT HLE HBR
     have HOWN := Lib.hid hown
     clear hx hx64 hown hlen hlk hwl hBs c0 hpre hfb hm hbx
     go_wp2_with (first
      | (go_at_call 39; refine HBR.out.mono ?_; rintro e w3 ⟨A2, cap2, rfl, hB2, hb2⟩; have HBX2 := Lib.hid (bx_step HBW.out hb2); have HO2 := Lib.hid (own_below HOWN.out hb2); have HBS := Lib.hid hB2; clear hB2 hb2)
      | (at_builtin; refine wpList_append_bs2 rfl _ _ 34 rfl (w.heap.size + 1) 5 i0 Tryz.underlying34 hi hz0 hz1 hz2 _ _ pre rfl HO2.out _ _ _ fb rfl rfl HBS.out HLE.out (lt_of_block HBX2.out.b_blk) ?_; intro v3 w4 ho3 hg3 hm3; have HO3 := Lib.hid ho3; have HG3 := Lib.hid hg3; clear ho3 hg3 hm3))
     go_roundw
     case rel => exact ⟨k + 1, _, _, by omega, by go_num, rfl, by rw [HFT.out]; exact HO3.out, bx_grown HBX2.out HG3.out (fun j hj => (HO2.out.lt j hj).1)⟩
     case measure => simp [intOf]; omega
    ·have g1 : decide ((k : Int) < (n : Int)) = false := decide_eq_false (by omega)
     have e : l.take k = l := List.take_of_length_le (by have := HN.out; omega)
     rw [e, ← HPK.out] at hown
     obtain ⟨hm, Av, capv, hv, hBs⟩ := Bs.own hown
     subst hv
     have gs := run_string_bytes (P := Tryz.prog) hBs Tryz.underlying34 Tryz.underlying5 Tryz.underlying9
     clear hown e hbx
     go_wp2
     go_ret
     exact ⟨rfl, HBW.out.b_bel⟩
set_option maxHeartbeats 4000000 in
theorem pnumbers_any {n : Nat} {S : Nat → Prop} (w : World) {A : Option Addr} {ln cap : Nat} {l : List Va} (h : VsAt S n w A cap l) (hln : ln = l.length) (hl : l.length ≤ 1000000000000) :
 Calls Tryz.prog 73 #[.slice A ln cap] w fun e w' => ∃ A2 c2, e = .returned (.slice A2 ln c2) ∧ Sl w' A2 c2 (u64s (l.map (·.vn))) ∧ Below w.heap.size w w' := by
 obtain ⟨i0, hi, hz0, hz1, hz2⟩ := info_parts info_u64
 have q3 := h.l_le
 have q4 := h.l_max
 unfold maxLen at q4
 rw [← hln] at q3 hl
 obtain ⟨wm, hmk, hom, hgm⟩ := run_make_own (P := Tryz.prog) (w := w) w.heap.size 45 61 i0 (.int .u64 0) 1 Tryz.underlying45 hi hz0 hz1 .i64 .i64 ln (by rw [hz2]; omega) (by unfold maxLen; omega) (Nat.le_refl _)
 have HVS := Lib.hid h
 have HLN := Lib.hid hln
 obtain ⟨NL, hNL⟩ : ∃ NL, NL = l.map (·.vn) := ⟨_, rfl⟩
 have HNL : Hid (NL.length = ln) := Lib.hid (by rw [hNL, List.length_map, hln])
 have HNA : Hid (∀ (k : Nat) v, l[k]? = some v → NL[k]? = some v.vn) := Lib.hid (fun k v hk => by rw [hNL, List.getElem?_map, hk]; rfl)
 rw [← hNL]
 have HO := Lib.hid hom
 have HBM : Hid (Below w.heap.size w wm) := Lib.hid ((Below.refl _ w).grown hgm (Nat.le_refl _) (fun k e => by cases e))
 clear h hln hNL hom hgm
 go_enter Tryz.func73, Tryz.ntmps73
 go_wp2
 go_loopw [3, 11] (fun v x wr => ∃ (k : Nat) (vo : Value), k ≤ ln ∧ x = .int .i64 (k : Int) ∧ v = vo ∧ wr.ownsRow w.heap.size 61 1 vo k (u64s (NL.take k)) ∧ Below w.heap.size w wr) (fun _ x _ => ln - (intOf x).toNat)
 case atStart => exact ⟨0, _, Nat.zero_le _, rfl, rfl, HO.out, HBM.out⟩
 case round =>
  obtain ⟨k, vo, hk, rfl, rfl, hown, hbel⟩ := hrel
  clear HO HBM hmk
  by_cases hlt : k < ln
  ·have g1 : decide ((k : Int) < (ln : Int)) = true := decide_eq_true (by omega)
   obtain ⟨v, hv⟩ : ∃ v, l[k]? = some v := ⟨_, List.getElem?_eq_getElem (by have := HLN.out; omega)⟩
   obtain ⟨gv, ov, C, cc, rfl, _, hcv, hkv⟩ := va_at HVS.out hv
   obtain ⟨c0, c1, c2⟩ := hcv wr (stay_bel hbel)
   have hn := HNA.out k v hv
   have HTK : Hid (u64s (NL.take (k + 1)) = u64s (NL.take k) ++ [.int .u64 (v.vn : Int)]) := Lib.hid (by rw [List.take_add_one, hn, u64s_snoc]; rfl)
   have hsl := Sl.own hown
   obtain ⟨hsl1, Av, capv, hv0, _⟩ := hsl
   have hkl : (u64s (NL.take k)).length = k := by rw [u64s_length, List.length_take, HNL.out]; omega
   rw [hkl] at hv0
   subst hv0
   generalize (v.vn : Int) = zv at *
   generalize strOf v.vs = sv at *
   generalize v.vm.length = mv at *
   clear hcv hkv hv hn hsl1 hkl
   have hown1 := own_below hown ((Below.refl _ wr).alloc (Nat.le_refl _) (.cells #[.int .u64 zv, .string sv, .slice C mv cc] 64))
   have hb1 : Below w.heap.size w (wr.alloc (.cells #[.int .u64 zv, .string sv, .slice C mv cc] 64)) := hbel.alloc hbel.size _
   have HOW1 := Lib.hid hown1
   have HBE1 := Lib.hid hb1
   have HOW0 := Lib.hid hown
   have HSZ := Lib.hid hbel.size
   clear hown1 hb1 hown hbel
   go_wp2_with (at_builtin; refine wpList_append_own _ rfl _ _ 45 rfl w.heap.size 61 i0 (.int .u64 0) 1 8 Tryz.underlying45 hi hz0 hz1 hz2 rfl (by decide) _ _ _ (by first | rfl | (simp [u64s_length, HNL.out]; omega)) (HOW1.out.alloc _) ⟨wr.heap.size + 1, 0, none⟩ 1 1 [.int .u64 zv] rfl rfl (by first | exact cell_one_new _ _ _ | (have := cell_one_new (wr.alloc (.cells #[.int .u64 zv, .string sv, .slice C mv cc] 64)) (.int .u64 zv) 61; simpa using this)) (one_u64 _) (by unfold maxLen; omega) (by omega) (by have := HSZ.out; simp; omega) ?_; intro v2 w2 hown2 hgrow2 _; have HOW2 := Lib.hid hown2; have HGR2 := Lib.hid hgrow2; clear hown2 hgrow2)
   have hb2 : Below w.heap.size w w2 := (HBE1.out.alloc HBE1.out.size _).grown HGR2.out (by have := HSZ.out; simp; omega) (fun j hj => (HOW0.out.lt j hj).1)
   have hown3 : w2.ownsRow w.heap.size 61 1 v2 (k + 1) (u64s (NL.take (k + 1))) := by rw [HTK.out]; exact HOW2.out
   go_wp2
   go_roundw
   case rel => exact ⟨k + 1, _, by omega, by go_num, rfl, hown3, hb2⟩
   case measure => simp [intOf]; omega
  ·have g1 : decide ((k : Int) < (ln : Int)) = false := decide_eq_false (by omega)
   have e : NL.take k = NL := List.take_of_length_le (by have := HNL.out; omega)
   rw [e] at hown
   obtain ⟨_, Av, capv, hv0, hsl⟩ := Sl.own hown
   rw [u64s_length, HNL.out] at hv0
   subst hv0
   have HSL := Lib.hid hsl
   have HBL := Lib.hid hbel
   clear hown hbel e hsl
   go_wp2
   go_ret
   exact ⟨_, _, rfl, HSL.out, HBL.out⟩
end Go.Proofs.YtloheacncefkgaaGreatDoor
