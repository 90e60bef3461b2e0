/- Several texts in one: SxE, SxF, SxG, SxH. What each proves, and its conditions, stands at its own head. -/
import Derived.Test.YtcjjphioeneiiaaGreatDoorPkSB43
import Derived.Test.YtcjjphioeneiiaaGreatDoorPkSB15
import Derived.Test.YtcjjphioeneiiaaGreatDoorPkSB18
import Derived.Test.YtcjjphioeneiiaaGreatDoorPkSB16
/- What the program's layer 15 asks of one enum, value, field, name or number, and the lists that it gathers. Conditions: those that each theorem names. -/
namespace Go.Proofs.YtcjjphioeneiiaaGreatDoor
open Go.RowKit
set_option linter.unusedVariables false
set_option maxRecDepth 100000

theorem senum_name (sn : ByteArray) (A : Option Addr) (nv c : Nat) (w : World) : Calls Tryz.prog 193 #[.agg #[.string sn, .slice A nv c]] w fun e w' => e = .returned (.string sn) ∧ Below w.heap.size w w' := by
 go_enter Tryz.func193, Tryz.ntmps193
 go_wp2
 go_ret
 exact ⟨rfl, (Below.refl _ w).alloc (Nat.le_refl _) _⟩
theorem smsg_name (sn : ByteArray) (A A2 : Option Addr) (nf c nb c2 : Nat) (w : World) : Calls Tryz.prog 195 #[.agg #[.string sn, .slice A nf c, .slice A2 nb c2]] w fun e w' => e = .returned (.string sn) ∧ Below w.heap.size w w' := by
 go_enter Tryz.func195, Tryz.ntmps195
 go_wp2
 go_ret
 exact ⟨rfl, (Below.refl _ w).alloc (Nat.le_refl _) _⟩
theorem sval_name (sn : ByteArray) (z : Int) (w : World) : Calls Tryz.prog 197 #[.agg #[.string sn, .int .i64 z]] w fun e w' => e = .returned (.string sn) ∧ Below w.heap.size w w' := by
 go_enter Tryz.func197, Tryz.ntmps197
 go_wp2
 go_ret
 exact ⟨rfl, (Below.refl _ w).alloc (Nat.le_refl _) _⟩
theorem sval_num (sn : ByteArray) (z : Int) (w : World) : Calls Tryz.prog 211 #[.agg #[.string sn, .int .i64 z]] w fun e w' => e = .returned (.int .i64 z) ∧ Below w.heap.size w w' := by
 go_enter Tryz.func211, Tryz.ntmps211
 go_wp2
 go_ret
 exact ⟨rfl, (Below.refl _ w).alloc (Nat.le_refl _) _⟩
theorem sfld_name (f : Fd) (w : World) : Calls Tryz.prog 251 #[fdV f] w fun e w' => e = .returned (.string (strOf f.name)) ∧ Below w.heap.size w w' := by
 obtain ⟨name, num, ty, ref, rep, loose, one⟩ := f
 unfold fdV
 dsimp only
 go_enter Tryz.func251, Tryz.ntmps251
 go_wp2
 go_ret
 exact ⟨rfl, (Below.refl _ w).alloc (Nat.le_refl _) _⟩
theorem sfld_num (f : Fd) (w : World) : Calls Tryz.prog 214 #[fdV f] w fun e w' => e = .returned (.int .i64 f.num) ∧ Below w.heap.size w w' := by
 obtain ⟨name, num, ty, ref, rep, loose, one⟩ := f
 unfold fdV
 dsimp only
 go_enter Tryz.func214, Tryz.ntmps214
 go_wp2
 go_ret
 exact ⟨rfl, (Below.refl _ w).alloc (Nat.le_refl _) _⟩
theorem scrowd_e (sn : ByteArray) (A : Option Addr) (nv c : Nat) (w : World) : Calls Tryz.prog 116 #[.agg #[.string sn, .slice A nv c]] w fun e w' => e = .returned (.bool (decide (8 < nv))) ∧ Below w.heap.size w w' := by
 obtain ⟨b, hb⟩ : ∃ b, b = decide (8 < nv) := ⟨_, rfl⟩
 have kb0 : decide ((nv : Int) > 8) = b := by rw [hb]; exact decide_eq_decide.mpr (by omega)
 have kb1 : decide ((8 : Int) < (nv : Int)) = b := by rw [hb]; exact decide_eq_decide.mpr (by omega)
 rw [← hb]
 clear hb
 go_enter Tryz.func116, Tryz.ntmps116
 go_wp2
 go_ret
 exact ⟨rfl, (Below.refl _ w).alloc (Nat.le_refl _) _⟩
theorem sempty_e (sn : ByteArray) (A : Option Addr) (nv c : Nat) (w : World) : Calls Tryz.prog 119 #[.agg #[.string sn, .slice A nv c]] w fun e w' => e = .returned (.bool (decide (nv = 0))) ∧ Below w.heap.size w w' := by
 obtain ⟨b, hb⟩ : ∃ b, b = decide (nv = 0) := ⟨_, rfl⟩
 have kb : ((nv : Int) == 0) = b := by rw [hb]; exact nat_eqz nv
 have kb2 : decide (nv = 0) = b := hb.symm
 rw [← hb]
 clear hb
 go_enter Tryz.func119, Tryz.ntmps119
 go_wp2
 go_ret
 exact ⟨rfl, (Below.refl _ w).alloc (Nat.le_refl _) _⟩
theorem scrowd_m (sn : ByteArray) (A A2 : Option Addr) (nf c nb c2 : Nat) (w : World) : Calls Tryz.prog 117 #[.agg #[.string sn, .slice A nf c, .slice A2 nb c2]] w fun e w' => e = .returned (.bool (decide (10 < nf) || decide (8 < nb))) ∧ Below w.heap.size w w' := by
 have hways : (decide ((nf : Int) > 10) = true ∧ decide (10 < nf) = true) ∨ (decide ((nf : Int) > 10) = false ∧ decide (10 < nf) = false) := by
  by_cases h1 : 10 < nf
  ·exact .inl ⟨decide_eq_true (by omega), decide_eq_true h1⟩
  ·exact .inr ⟨decide_eq_false (by omega), decide_eq_false h1⟩
 obtain ⟨b, hb⟩ : ∃ b, b = decide (8 < nb) := ⟨_, rfl⟩
 have kb0 : decide ((nb : Int) > 8) = b := by rw [hb]; exact decide_eq_decide.mpr (by omega)
 have kb1 : decide ((8 : Int) < (nb : Int)) = b := by rw [hb]; exact decide_eq_decide.mpr (by omega)
 rw [← hb]
 clear hb
 rcases hways with ⟨k1, e1⟩ | ⟨k1, e1⟩
 all_goals
  rw [e1]
  go_enter Tryz.func117, Tryz.ntmps117
  go_wp2
  go_ret
  exact ⟨rfl, (Below.refl _ w).alloc (Nat.le_refl _) _⟩
theorem soutb_any (z : Int) (w : World) : Calls Tryz.prog 216 #[.int .i64 z] w fun e w' => e = .returned (.bool (outB z)) ∧ w = w' := by
 unfold outB
 have hways : (decide (z < 1) = true) ∨ (decide (z < 1) = false) := by cases decide (z < 1) <;> simp
 obtain ⟨b, hb⟩ : ∃ b, b = decide (536870911 < z) := ⟨_, rfl⟩
 have kb := hb.symm
 rw [← hb]
 clear hb
 rcases hways with k1 | k1
 all_goals
  rw [k1]
  go_enter Tryz.func216, Tryz.ntmps216
  go_wp2
  go_ret
  exact ⟨rfl, rfl⟩
theorem sbad_any (t : List UInt8) (w : World) : Calls Tryz.prog 125 #[.string (strOf t)] w fun e w' => e = .returned (.bool (badName t)) ∧ Below w.heap.size w w' := by
 have HR := Lib.hid (pright_any w t)
 have HB : Hid (badName t = !nameB t) := Lib.hid rfl
 obtain ⟨b, hb⟩ : ∃ b, b = nameB t := ⟨_, rfl⟩
 rw [← hb] at HR HB
 rw [HB.out]
 clear hb HB
 cases b with
 | true =>
   go_enter Tryz.func125, Tryz.ntmps125
   go_wp2_with (go_at_call 126; refine HR.out.mono ?_; rintro e w2 ⟨rfl, hb⟩; have HB2 := Lib.hid hb; clear hb)
   go_ret
   exact ⟨rfl, HB2.out⟩
 | false =>
   go_enter Tryz.func125, Tryz.ntmps125
   go_wp2_with (go_at_call 126; refine HR.out.mono ?_; rintro e w2 ⟨rfl, hb⟩; have HB2 := Lib.hid hb; clear hb)
   go_ret
   exact ⟨rfl, HB2.out⟩
theorem en_enum1 : Enters Tryz.prog 193 := fun _ _ => rfl
theorem en_msg1 : Enters Tryz.prog 195 := fun _ _ => rfl
theorem en_val1 : Enters Tryz.prog 197 := fun _ _ => rfl
theorem en_fld1 : Enters Tryz.prog 251 := fun _ _ => rfl
theorem en_num1 : Enters Tryz.prog 211 := fun _ _ => rfl
theorem en_num2 : Enters Tryz.prog 214 := fun _ _ => rfl
theorem en_crowd1 : Enters Tryz.prog 116 := fun _ _ => rfl
theorem en_crowd2 : Enters Tryz.prog 117 := fun _ _ => rfl
theorem en_empty1 : Enters Tryz.prog 119 := fun _ _ => rfl
theorem en_out1 : Enters Tryz.prog 216 := fun _ _ => rfl
theorem en_bad1 : Enters Tryz.prog 125 := fun _ _ => rfl

theorem senums_any {S : Nat → Nat → Prop} (w : World) {A A2 : Option Addr} {n cap n2 cap2 : Nat} {s : Sc} (h : ScAt S w A n cap A2 n2 cap2 s) (hm : n ≤ 1000) :
 Calls Tryz.prog 121 #[.agg #[.slice A n cap, .slice A2 n2 cap2]] w fun e w' => ∃ A' cap', e = .returned (.slice A' n cap') ∧ Sl w' A' cap' (txts (eNames s)) ∧ Below w.heap.size w w' := by
 obtain ⟨m1, m2, m3, m4⟩ := scAt_max h
 have HBX := Lib.hid (bx_start w #[.slice A n cap, .slice A2 n2 cap2] 26)
 have HG := Lib.hid (fun u (hb : Below w.heap.size w u) => gat_ens u (scAt_bel h hb).s_e h.s_ne hm 193 #[] en_enum1 En.name (fun x _ A1 c1 _ wr _ => senum_name _ _ _ _ wr))
 clear h
 have r0 := obj_cell (HBX.out).b_blk 0
 go_enter Tryz.func121, Tryz.ntmps121
 go_wp2_with (go_at_call 192; refine (HG.out _ HBX.out.b_bel).mono ?_; rintro e w2 ⟨A', cap', rfl, hs, hb⟩; have HS := Lib.hid hs; have HB2 := Lib.hid (HBX.out.b_bel.trans (hb.mono HBX.out.b_bel.size)); clear hs hb)
 go_ret
 exact ⟨A', cap', rfl, HS.out, HB2.out⟩
theorem smsgs_any {S : Nat → Nat → Prop} (w : World) {A A2 : Option Addr} {n cap n2 cap2 : Nat} {s : Sc} (h : ScAt S w A n cap A2 n2 cap2 s) (hm : n2 ≤ 1000) :
 Calls Tryz.prog 122 #[.agg #[.slice A n cap, .slice A2 n2 cap2]] w fun e w' => ∃ A' cap', e = .returned (.slice A' n2 cap') ∧ Sl w' A' cap' (txts (mNames s)) ∧ Below w.heap.size w w' := by
 obtain ⟨m1, m2, m3, m4⟩ := scAt_max h
 have HBX := Lib.hid (bx_start w #[.slice A n cap, .slice A2 n2 cap2] 26)
 have HG := Lib.hid (fun u (hb : Below w.heap.size w u) => gat_mss u (scAt_bel h hb).s_m h.s_nm hm 195 #[] en_msg1 Ms.name (fun x _ A1 c1 A3 c3 _ _ wr _ => smsg_name _ _ _ _ _ _ _ wr))
 clear h
 have r0 := obj_cell (HBX.out).b_blk 1
 go_enter Tryz.func122, Tryz.ntmps122
 go_wp2_with (go_at_call 194; refine (HG.out _ HBX.out.b_bel).mono ?_; rintro e w2 ⟨A', cap', rfl, hs, hb⟩; have HS := Lib.hid hs; have HB2 := Lib.hid (HBX.out.b_bel.trans (hb.mono HBX.out.b_bel.size)); clear hs hb)
 go_ret
 exact ⟨A', cap', rfl, HS.out, HB2.out⟩
theorem svals_any {S : Nat → Prop} (w : World) {A : Option Addr} {nv c : Nat} {x : En} (sn : ByteArray) (h : Lst 2 S vlR w A c x.values) (hn : nv = x.values.length) (hm : nv ≤ 1000) :
 Calls Tryz.prog 123 #[.agg #[.string sn, .slice A nv c]] w fun e w' => ∃ A' cap', e = .returned (.slice A' nv cap') ∧ Sl w' A' cap' (txts (vNames x)) ∧ Below w.heap.size w w' := by
 have q1 := h.l_le
 have q2 := h.l_max
 rw [← hn] at q1
 unfold maxLen at q2
 have HBX := Lib.hid (bx_start w #[.string sn, .slice A nv c] 47)
 have HG := Lib.hid (fun u (hb : Below w.heap.size w u) => gat_vls u (lst_keep h vlR_keep (fun _ h => h) (bel_keep hb)) hn hm 197 #[] en_val1 Vl.name (fun x _ wr _ => sval_name _ _ wr))
 clear h hn
 have r0 := obj_cell (HBX.out).b_blk 1
 go_enter Tryz.func123, Tryz.ntmps123
 go_wp2_with (go_at_call 196; refine (HG.out _ HBX.out.b_bel).mono ?_; rintro e w2 ⟨A', cap', rfl, hs, hb⟩; have HS := Lib.hid hs; have HB2 := Lib.hid (HBX.out.b_bel.trans (hb.mono HBX.out.b_bel.size)); clear hs hb)
 go_ret
 exact ⟨A', cap', rfl, HS.out, HB2.out⟩
theorem sflds_any {S : Nat → Prop} (w : World) {A A2 : Option Addr} {nf c nb c2 : Nat} {x : Ms} (sn : ByteArray) (h : Lst 7 S fdR w A c x.fields) (hn : nf = x.fields.length) (hm : nf ≤ 1000) :
 Calls Tryz.prog 208 #[.agg #[.string sn, .slice A nf c, .slice A2 nb c2]] w fun e w' => ∃ A' cap', e = .returned (.slice A' nf cap') ∧ Sl w' A' cap' (txts (fNames x)) ∧ Below w.heap.size w w' := by
 have q1 := h.l_le
 have q2 := h.l_max
 rw [← hn] at q1
 unfold maxLen at q2
 have HBX := Lib.hid (bx_start w #[.string sn, .slice A nf c, .slice A2 nb c2] 43)
 have HG := Lib.hid (fun u (hb : Below w.heap.size w u) => gat_fds u (lst_keep h fdR_keep (fun _ h => h) (bel_keep hb)) hn hm 251 #[] en_fld1 Fd.name (fun x _ wr _ => sfld_name x wr))
 clear h hn
 have r0 := obj_cell (HBX.out).b_blk 1
 go_enter Tryz.func208, Tryz.ntmps208
 go_wp2_with (go_at_call 250; refine (HG.out _ HBX.out.b_bel).mono ?_; rintro e w2 ⟨A', cap', rfl, hs, hb⟩; have HS := Lib.hid hs; have HB2 := Lib.hid (HBX.out.b_bel.trans (hb.mono HBX.out.b_bel.size)); clear hs hb)
 go_ret
 exact ⟨A', cap', rfl, HS.out, HB2.out⟩
end Go.Proofs.YtcjjphioeneiiaaGreatDoor

/- What the program's layer 15 asks of one enum or message: names there twice, numbers that rise, barred numbers, what fields refer to. Conditions: those that each theorem names. -/
namespace Go.Proofs.YtcjjphioeneiiaaGreatDoor
open Go.RowKit
set_option linter.unusedVariables false
set_option maxRecDepth 100000

set_option maxHeartbeats 2000000 in
theorem stwice_e {S : Nat → Prop} (w : World) {A : Option Addr} {nv c : Nat} {x : En} (sn : ByteArray) (h : Lst 2 S vlR w A c x.values) (hn : nv = x.values.length) (hm : nv ≤ 1000) :
 Calls Tryz.prog 129 #[.agg #[.string sn, .slice A nv c]] w fun e w' => e = .returned (.bool (twiceE x)) ∧ Below w.heap.size w w' := by
 have HBX := Lib.hid (bx_start w #[.string sn, .slice A nv c] 47)
 have HG := Lib.hid (fun u (hb : Below w.heap.size w u) => svals_any u sn (lst_keep h vlR_keep (fun _ h => h) (bel_keep hb)) hn hm)
 have HL : Hid (nv = (vNames x).length) := Lib.hid (by unfold vNames; rw [List.length_map, hn])
 have HV : Hid (twiceE x = !onceB (vNames x)) := Lib.hid rfl
 have r0 := obj_cell (HBX.out).b_blk 0
 have r1 := obj_cell (HBX.out).b_blk 1
 obtain ⟨b, hb⟩ : ∃ b, b = onceB (vNames x) := ⟨_, rfl⟩
 have HBB := Lib.hid hb
 rw [← hb] at HV
 rw [HV.out]
 clear h hn hb HV
 cases b
 all_goals
  go_enter Tryz.func129, Tryz.ntmps129
  go_wp2_with (first
   | (go_at_call 123; refine (HG.out _ HBX.out.b_bel).mono ?_; rintro e w2 ⟨A', cap', rfl, hs, hb⟩; have HO := Lib.hid (ponce_any w2 hs HL.out (by omega)); rw [← HBB.out] at HO; have HB2 := Lib.hid (HBX.out.b_bel.trans (hb.mono HBX.out.b_bel.size)); clear hs hb)
   | (go_at_call 128; refine HO.out.mono ?_; rintro e w3 ⟨rfl, hb⟩; have HB3 := Lib.hid (HB2.out.trans (hb.mono HB2.out.size)); clear hb))
  go_ret
  exact ⟨rfl, HB3.out⟩

set_option maxHeartbeats 4000000 in
theorem sastray_any {S : Nat → Prop} (w : World) {A : Option Addr} {nv c : Nat} {x : En} (sn : ByteArray) (h : Lst 2 S vlR w A c x.values) (hn : nv = x.values.length) (h1 : 1 ≤ nv) (hm : nv ≤ 1000) :
 Calls Tryz.prog 132 #[.agg #[.string sn, .slice A nv c]] w fun e w' => e = .returned (.bool (orderE x)) ∧ Below w.heap.size w w' := by
 have q1 := h.l_le
 have q2 := h.l_max
 rw [← hn] at q1
 unfold maxLen at q2
 have HBX := Lib.hid (bx_start w #[.string sn, .slice A nv c] 47)
 have HG := Lib.hid (fun u (hb : Below w.heap.size w u) => gat_vlz u (lst_keep h vlR_keep (fun _ h => h) (bel_keep hb)) hn hm 211 #[] en_num1 Vl.num (fun x _ wr _ => sval_num _ _ wr))
 have hlen : nv = (vNums x).length := by unfold vNums; rw [List.length_map, hn]
 have HLEN := Lib.hid hlen
 obtain ⟨a0, ha0⟩ : ∃ a, (vNums x)[0]? = some a := ⟨_, List.getElem?_eq_getElem (by omega)⟩
 obtain ⟨k1, hk1⟩ : ∃ k1, k1 + 1 = nv := ⟨nv - 1, by omega⟩
 obtain ⟨al, hal⟩ : ∃ a, (vNums x)[k1]? = some a := ⟨_, List.getElem?_eq_getElem (by omega)⟩
 have hhd := headD_at ha0
 have hld := lastD_at hal (by omega)
 obtain ⟨r, hr⟩ : ∃ r, r = risesB (vNums x) := ⟨_, rfl⟩
 have HD : Hid (orderE x = ((!r || !decide (a0 = 0)) || decide (1048576 < al))) := Lib.hid (by unfold orderE; rw [hhd, hld, hr])
 have HR := Lib.hid hr
 have HA0 := Lib.hid ha0
 have HAL := Lib.hid hal
 have gw : IntKind.i64.wrap ((nv : Int) - 1) = (k1 : Int) := by rw [show (nv : Int) - 1 = (k1 : Int) by omega]; exact IntWalk.i64_in _ (by omega)
 have gx : (nv : Int) - 1 = (k1 : Int) := by omega
 have gw2 : IntKind.i64.wrap (k1 : Int) = (k1 : Int) := IntWalk.i64_in _ (by omega)
 have hkk : k1 < nv := by omega
 have r1 := obj_cell (HBX.out).b_blk 1
 obtain ⟨big, hbig⟩ : ∃ b, b = decide (1048576 < al) := ⟨_, rfl⟩
 have kb1 : decide (al > 1048576) = big := hbig.symm
 have kb2 : decide (1048576 < al) = big := hbig.symm
 rw [← hbig] at HD
 rw [HD.out]
 clear h hn hlen ha0 hal hhd hld hr hbig HD hk1
 cases r with
 | false =>
   go_enter Tryz.func132, Tryz.ntmps132
   go_wp2_with (first
    | (go_at_call 210; refine (HG.out _ HBX.out.b_bel).mono ?_; rintro e w2 ⟨A', cap', rfl, hl, hb⟩; have HO := Lib.hid (srise_any (l := vNums x) w2 hl HLEN.out); rw [← HR.out] at HO; have HB2 := Lib.hid (HBX.out.b_bel.trans (hb.mono HBX.out.b_bel.size)); clear hl hb)
    | (go_at_call 212; refine HO.out.mono ?_; rintro e w3 ⟨rfl, rfl⟩))
   go_ret
   exact ⟨rfl, HB2.out⟩
 | true =>
   by_cases hz : a0 = 0
   ·rw [decide_eq_true hz]
    subst hz
    go_enter Tryz.func132, Tryz.ntmps132
    go_wp2_with (first
     | (go_at_call 210; refine (HG.out _ HBX.out.b_bel).mono ?_; rintro e w2 ⟨A', cap', rfl, hl, hb⟩; have HO := Lib.hid (srise_any (l := vNums x) w2 hl HLEN.out); rw [← HR.out] at HO; have HB2 := Lib.hid (HBX.out.b_bel.trans (hb.mono HBX.out.b_bel.size)); have p1 : (vNums x).length ≤ cap' := hl.l_le; have p2 := hl.l_max; obtain ⟨gl, ol, rfl, _, q0⟩ := in_at hl HA0.out; obtain ⟨g', o', e', _, q9⟩ := in_at hl HAL.out; cases e'; have c0 := q0 _ (Below.refl _ _); have c9 := q9 _ (Below.refl _ _); rw [Nat.add_zero] at c0; rw [← HLEN.out] at p1; unfold maxLen at p2; clear hl hb q0 q9)
     | (go_at_call 212; refine HO.out.mono ?_; rintro e w3 ⟨rfl, rfl⟩))
    go_ret
    exact ⟨rfl, HB2.out⟩
   ·rw [decide_eq_false hz]
    have ea : (a0 == 0) = false := beq_false_of_ne hz
    have eb : (a0 != 0) = true := by simp [hz]
    have HZ := Lib.hid hz
    go_enter Tryz.func132, Tryz.ntmps132
    go_wp2_with (first
     | (go_at_call 210; refine (HG.out _ HBX.out.b_bel).mono ?_; rintro e w2 ⟨A', cap', rfl, hl, hb⟩; have HO := Lib.hid (srise_any (l := vNums x) w2 hl HLEN.out); rw [← HR.out] at HO; have HB2 := Lib.hid (HBX.out.b_bel.trans (hb.mono HBX.out.b_bel.size)); have p1 : (vNums x).length ≤ cap' := hl.l_le; have p2 := hl.l_max; obtain ⟨gl, ol, rfl, _, q0⟩ := in_at hl HA0.out; have c0 := q0 _ (Below.refl _ _); rw [Nat.add_zero] at c0; rw [← HLEN.out] at p1; unfold maxLen at p2; clear hl hb q0)
     | (go_at_call 212; refine HO.out.mono ?_; rintro e w3 ⟨rfl, rfl⟩))
    go_ret
    exact ⟨rfl, HB2.out⟩

set_option maxHeartbeats 4000000 in
theorem sjumbled_any {S1 S2 : Nat → Prop} (w : World) {A A2 : Option Addr} {nf c nb c2 : Nat} {x : Ms} (sn : ByteArray) (h : Lst 7 S1 fdR w A c x.fields) (h2 : Lst 1 S2 inR w A2 c2 x.barred) (hn : nf = x.fields.length) (hn2 : nb = x.barred.length) (hm : nf ≤ 1000) :
 Calls Tryz.prog 133 #[.agg #[.string sn, .slice A nf c, .slice A2 nb c2]] w fun e w' => e = .returned (.bool (jumbledM x)) ∧ Below w.heap.size w w' := by
 have HBX := Lib.hid (bx_start w #[.string sn, .slice A nf c, .slice A2 nb c2] 43)
 have HG := Lib.hid (fun u (hb : Below w.heap.size w u) => gat_fdz u (lst_keep h fdR_keep (fun _ h => h) (bel_keep hb)) hn hm 214 #[] en_num2 Fd.num (fun x _ wr _ => sfld_num x wr))
 have hlen : nf = (fNums x).length := by unfold fNums; rw [List.length_map, hn]
 have HLEN := Lib.hid hlen
 have HR2 := Lib.hid (fun u (hb : Below w.heap.size w u) => srise_any u (lst_keep h2 inR_keep (fun _ h => h) (bel_keep hb)) hn2)
 have HCF := Lib.hid (fun u (hb : Below w.heap.size w u) => con_in u (lst_keep h2 inR_keep (fun _ h => h) (bel_keep hb)) hn2 216 #[] en_out1 outB (fun z _ wr _ => (soutb_any z wr).mono (fun e w' ⟨e1, e2⟩ => ⟨e1, e2 ▸ Below.refl _ _⟩)))
 obtain ⟨r, hr⟩ : ∃ r, r = risesB (fNums x) := ⟨_, rfl⟩
 obtain ⟨q, hq⟩ : ∃ q, q = risesB x.barred := ⟨_, rfl⟩
 obtain ⟨o, ho⟩ : ∃ o, o = x.barred.any outB := ⟨_, rfl⟩
 have HD : Hid (jumbledM x = ((!r || !q) || o)) := Lib.hid (by unfold jumbledM; rw [hr, hq, ho])
 have HR := Lib.hid hr
 rw [← hq] at HR2
 rw [← ho] at HCF
 rw [HD.out]
 have HK : Hid (∀ u, Bx w u (.cells #[.string sn, .slice A nf c, .slice A2 nb c2] 43 (0, 0)) → u.cell? ⟨w.heap.size, 2, none⟩ = some (.slice A2 nb c2)) := Lib.hid (fun u hb => obj_cell hb.b_blk 2)
 have r1 := obj_cell (HBX.out).b_blk 1
 clear h h2 hn hn2 hlen hr hq ho HD
 cases r <;> cases q
 all_goals
  go_enter Tryz.func133, Tryz.ntmps133
  go_wp2_with (first
   | (go_at_call 213; refine (HG.out _ HBX.out.b_bel).mono ?_; rintro e w2 ⟨A', cap', rfl, hl, hb⟩; have HO := Lib.hid (srise_any (l := fNums x) w2 hl HLEN.out); rw [← HR.out] at HO; replace HBX := Lib.hid (bx_step HBX.out hb); have r2 := HK.out _ HBX.out; clear hl hb)
   | (go_at_call 212; refine HO.out.mono ?_; rintro e w3 ⟨rfl, rfl⟩; clear HO)
   | (go_at_call 212; refine (HR2.out _ HBX.out.b_bel).mono ?_; rintro e w3 ⟨rfl, rfl⟩; clear HR2)
   | (go_at_call 215; refine (HCF.out _ HBX.out.b_bel).mono ?_; rintro e w4 ⟨rfl, hb⟩; replace HBX := Lib.hid (bx_step HBX.out hb); clear hb))
  go_ret
  exact ⟨rfl, HBX.out.b_bel⟩

theorem en_clash1 : Enters Tryz.prog 209 := fun _ _ => rfl
theorem en_barred1 : Enters Tryz.prog 135 := fun _ _ => rfl
theorem en_barred2 : Enters Tryz.prog 137 := fun _ _ => rfl
theorem en_lost1 : Enters Tryz.prog 139 := fun _ _ => rfl
theorem en_lost2 : Enters Tryz.prog 141 := fun _ _ => rfl
/-- A box of the call's own. -/
theorem up_box (w : World) (o : Obj) : Below w.heap.size w (w.alloc o) := (Below.refl _ w).alloc (Nat.le_refl _) _
theorem sclash_f (f : Fd) (w : World) (b : Nat) {A : Option Addr} {n c : Nat} {l : List (List UInt8)} (hc : w.cell? ⟨b, 0, none⟩ = some (.slice A n c)) (hs : Sl w A c (txts l)) (hn : n = l.length) :
 Calls Tryz.prog 209 (#[fdV f] ++ #[.pointer (some ⟨b, 0, none⟩)]) w fun e w' => e = .returned (.bool (hasT l f.one)) ∧ Below w.heap.size w w' := by
 have HC := Lib.hid (fun u (hb : Below w.heap.size w u) => cts_st u (hs.below hb (Nat.le_refl _)) hn f.one)
 have HK : Hid (∀ u, Below w.heap.size w u → u.cell? ⟨b, 0, none⟩ = some (.slice A n c)) := Lib.hid (fun u hb => cell_under hb hc)
 have HU := Lib.hid (fun o => up_box w o)
 have HF : Hid (∀ o, (w.alloc o).cell? ⟨b, 0, none⟩ = some (.slice A n c)) := Lib.hid (fun o => cell_under (up_box w o) hc)
 have k0 := HF.out (.cells #[.string (strOf f.name), .int .i64 f.num, .int .i64 f.ty, .string (strOf f.ref), .bool f.rep, .bool f.loose, .string (strOf f.one)] 70)
 have HV : Hid (hasT l f.one = l.any (fun x => decide (x = f.one))) := Lib.hid rfl
 obtain ⟨v, hv⟩ : ∃ v, v = hasT l f.one := ⟨_, rfl⟩
 rw [← hv] at HV
 rw [← HV.out] at HC
 rw [← hv]
 clear hs hn hv HV hc
 obtain ⟨name, num, ty, ref, rep, loose, one⟩ := f
 unfold fdV
 dsimp only at HC k0 ⊢
 go_enter Tryz.func209, Tryz.ntmps209
 go_wp2_with (go_at_call 140; refine (HC.out _ (HU.out _)).mono ?_; rintro e w2 ⟨rfl, rfl⟩)
 go_ret
 exact ⟨rfl, HU.out _⟩
theorem sbarred_f (f : Fd) (w : World) (b : Nat) {S : Nat → Prop} {A : Option Addr} {n c : Nat} {l : List Int} (hc : w.cell? ⟨b, 2, none⟩ = some (.slice A n c)) (hs : Lst 1 S inR w A c l) (hn : n = l.length) :
 Calls Tryz.prog 137 (#[fdV f] ++ #[.pointer (some ⟨b, 0, none⟩)]) w fun e w' => e = .returned (.bool (isInB l f.num)) ∧ Below w.heap.size w w' := by
 have HC := Lib.hid (fun u (hb : Below w.heap.size w u) => cts_in u (lst_keep hs inR_keep (fun _ h => h) (bel_keep hb)) hn f.num)
 have HU := Lib.hid (fun o => up_box w o)
 have HF : Hid (∀ o, (w.alloc o).cell? ⟨b, 2, none⟩ = some (.slice A n c)) := Lib.hid (fun o => cell_under (up_box w o) hc)
 have k0 := HF.out (.cells #[.string (strOf f.name), .int .i64 f.num, .int .i64 f.ty, .string (strOf f.ref), .bool f.rep, .bool f.loose, .string (strOf f.one)] 70)
 have HV : Hid (isInB l f.num = l.any (fun x => decide (x = f.num))) := Lib.hid rfl
 obtain ⟨v, hv⟩ : ∃ v, v = isInB l f.num := ⟨_, rfl⟩
 rw [← hv] at HV
 rw [← HV.out] at HC
 rw [← hv]
 clear hs hn hv HV hc
 obtain ⟨name, num, ty, ref, rep, loose, one⟩ := f
 unfold fdV
 dsimp only at HC k0 ⊢
 go_enter Tryz.func137, Tryz.ntmps137
 go_wp2_with (go_at_call 138; refine (HC.out _ (HU.out _)).mono ?_; rintro e w2 ⟨rfl, rfl⟩)
 go_ret
 exact ⟨rfl, HU.out _⟩
theorem slost_f (s : Sc) (f : Fd) (w : World) (b1 b2 : Nat) {A A2 : Option Addr} {n c n2 c2 : Nat} (hc : w.cell? ⟨b1, 0, none⟩ = some (.slice A n c)) (hc2 : w.cell? ⟨b2, 0, none⟩ = some (.slice A2 n2 c2)) (hs : Sl w A c (txts (eNames s))) (hs2 : Sl w A2 c2 (txts (mNames s))) (hn : n = (eNames s).length) (hn2 : n2 = (mNames s).length) :
 Calls Tryz.prog 139 (#[fdV f] ++ #[.pointer (some ⟨b1, 0, none⟩), .pointer (some ⟨b2, 0, none⟩)]) w fun e w' => e = .returned (.bool (lostF s f)) ∧ Below w.heap.size w w' := by
 have HC := Lib.hid (fun u (hb : Below w.heap.size w u) => cts_st u (hs.below hb (Nat.le_refl _)) hn f.ref)
 have HC2 := Lib.hid (fun u (hb : Below w.heap.size w u) => cts_st u (hs2.below hb (Nat.le_refl _)) hn2 f.ref)
 have HU := Lib.hid (fun o => up_box w o)
 have k0 := cell_under (up_box w (.cells #[.string (strOf f.name), .int .i64 f.num, .int .i64 f.ty, .string (strOf f.ref), .bool f.rep, .bool f.loose, .string (strOf f.one)] 70)) hc
 have k1 := cell_under (up_box w (.cells #[.string (strOf f.name), .int .i64 f.num, .int .i64 f.ty, .string (strOf f.ref), .bool f.rep, .bool f.loose, .string (strOf f.one)] 70)) hc2
 obtain ⟨v, hv⟩ : ∃ v, v = (eNames s).any (fun x => decide (x = f.ref)) := ⟨_, rfl⟩
 obtain ⟨v2, hv2⟩ : ∃ v2, v2 = (mNames s).any (fun x => decide (x = f.ref)) := ⟨_, rfl⟩
 rw [← hv] at HC
 rw [← hv2] at HC2
 have HD : Hid (lostF s f = if f.ty = 14 then !v else if f.ty = 15 then !v2 else false) := Lib.hid (by unfold lostF hasT; rw [hv, hv2])
 rw [HD.out]
 clear hs hs2 hn hn2 hv hv2 hc hc2 HD
 obtain ⟨name, num, ty, ref, rep, loose, one⟩ := f
 unfold fdV
 dsimp only at HC HC2 k0 k1 ⊢
 by_cases h14 : ty = 14
 ·rw [if_pos h14]
  subst h14
  clear HC2
  cases v
  all_goals
   go_enter Tryz.func139, Tryz.ntmps139
   go_wp2_with (go_at_call 140; refine (HC.out _ (HU.out _)).mono ?_; rintro e w2 ⟨rfl, rfl⟩)
   go_ret
   exact ⟨rfl, HU.out _⟩
 ·rw [if_neg h14]
  have e14 : (ty == 14) = false := beq_false_of_ne h14
  by_cases h15 : ty = 15
  ·rw [if_pos h15]
   subst h15
   clear HC
   cases v2
   all_goals
    go_enter Tryz.func139, Tryz.ntmps139
    go_wp2_with (go_at_call 140; refine (HC2.out _ (HU.out _)).mono ?_; rintro e w2 ⟨rfl, rfl⟩)
    go_ret
    exact ⟨rfl, HU.out _⟩
  ·rw [if_neg h15]
   have e15 : (ty == 15) = false := beq_false_of_ne h15
   go_enter Tryz.func139, Tryz.ntmps139
   go_wp2
   go_ret
   exact ⟨rfl, HU.out _⟩
end Go.Proofs.YtcjjphioeneiiaaGreatDoor

/- What the program's layer 15 asks of a whole schema: too many, none, what rises, what is barred. Conditions: those that each theorem names. -/
namespace Go.Proofs.YtcjjphioeneiiaaGreatDoor
open Go.RowKit
set_option linter.unusedVariables false
set_option maxRecDepth 100000

set_option maxHeartbeats 4000000 in
theorem sclash_m {S1 : Nat → Prop} (w : World) {A A2 : Option Addr} {nf c nb c2 : Nat} {x : Ms} (sn : ByteArray) (h : Lst 7 S1 fdR w A c x.fields) (hn : nf = x.fields.length) (hm : nf ≤ 1000) :
 Calls Tryz.prog 130 #[.agg #[.string sn, .slice A nf c, .slice A2 nb c2]] w fun e w' => e = .returned (.bool (clashM x)) ∧ Below w.heap.size w w' := by
 have q1 := h.l_le
 have q2 := h.l_max
 rw [← hn] at q1
 unfold maxLen at q2
 have HBX := Lib.hid (bx_start w #[.string sn, .slice A nf c, .slice A2 nb c2] 43)
 have HG := Lib.hid (fun u (hb : Below w.heap.size w u) => sflds_any (A2 := A2) (nb := nb) (c2 := c2) u sn (lst_keep h fdR_keep (fun _ h => h) (bel_keep hb)) hn hm)
 have HL : Hid (nf = (fNames x).length) := Lib.hid (by unfold fNames; rw [List.length_map, hn])
 have HCO := Lib.hid (fun u (hb : Below w.heap.size w u) => con_fd u (lst_keep h fdR_keep (fun _ h => h) (bel_keep hb)) hn 209)
 have HK : Hid (∀ u, Bx w u (.cells #[.string sn, .slice A nf c, .slice A2 nb c2] 43 (0, 0)) → u.cell? ⟨w.heap.size, 1, none⟩ = some (.slice A nf c)) := Lib.hid (fun u hb => obj_cell hb.b_blk 1)
 obtain ⟨b, hb⟩ : ∃ b, b = onceB (fNames x) := ⟨_, rfl⟩
 have HBB := Lib.hid hb
 obtain ⟨o, ho⟩ : ∃ o, o = x.fields.any (fun f => hasT (fNames x) f.one) := ⟨_, rfl⟩
 have HOO := Lib.hid ho
 have HD : Hid (clashM x = (!b || o)) := Lib.hid (by unfold clashM; rw [hb, ho])
 rw [HD.out]
 have r0 := obj_cell (HBX.out).b_blk 0
 have r1 := obj_cell (HBX.out).b_blk 1
 have r2 := obj_cell (HBX.out).b_blk 2
 clear h hn hb ho HD
 cases b
 all_goals
  go_enter Tryz.func130, Tryz.ntmps130
  go_wp2_with (first
   | (go_at_call 208; refine (HG.out _ HBX.out.b_bel).mono ?_; rintro e w2 ⟨A', cap', rfl, hs, hb⟩; have HS := Lib.hid hs; have HO := Lib.hid (fun o => ponce_any (w2.alloc o) (hs.below (up_box w2 o) (Nat.le_refl _)) HL.out (by omega)); rw [← HBB.out] at HO; replace HBX := Lib.hid (bx_step HBX.out hb); have r1 := HK.out _ (bx_step HBX.out (up_box w2 (.cells #[.slice A' nf cap'] 78))); clear hs hb)
   | (go_at_call 128; refine (HO.out _).mono ?_; rintro e w4 ⟨rfl, hb4⟩; have r1 := HK.out _ (bx_step (bx_step HBX.out (up_box w2 (.cells #[.slice A' nf cap'] 78))) hb4); have HB4 := Lib.hid hb4; clear hb4)
   | (go_at_call 136; refine (HCO.out _ (bx_step (bx_step HBX.out (up_box w2 (.cells #[.slice A' nf cap'] 78))) HB4.out).b_bel #[.pointer (some ⟨w2.heap.size, 0, none⟩)] en_clash1 (fun f => hasT (fNames x) f.one) (fun f _ wr hbr => sclash_f f wr w2.heap.size (cell_under hbr (cell_under HB4.out (obj_cell (heap_alloc_new w2 (.cells #[.slice A' nf cap'] 78)) 0))) (((HS.out.below (up_box w2 _) (Nat.le_refl _)).below HB4.out (Nat.le_refl _)).below hbr (Nat.le_refl _)) HL.out)).mono ?_; rw [← HOO.out]; rintro e w5 ⟨rfl, hb5⟩; have HB5 := Lib.hid (bx_step (bx_step (bx_step HBX.out (up_box w2 (.cells #[.slice A' nf cap'] 78))) HB4.out) hb5).b_bel; clear hb5))
  go_ret
  first
   | exact ⟨rfl, HB5.out⟩
   | exact ⟨rfl, (bx_step (bx_step HBX.out (up_box w2 (.cells #[.slice A' nf cap'] 78))) HB4.out).b_bel⟩

theorem sbarred_m {S1 S2 : Nat → Prop} (w : World) {A A2 : Option Addr} {nf c nb c2 : Nat} {x : Ms} (sn : ByteArray) (h : Lst 7 S1 fdR w A c x.fields) (h2 : Lst 1 S2 inR w A2 c2 x.barred) (hn : nf = x.fields.length) (hn2 : nb = x.barred.length) :
 Calls Tryz.prog 135 #[.agg #[.string sn, .slice A nf c, .slice A2 nb c2]] w fun e w' => e = .returned (.bool (barredM x)) ∧ Below w.heap.size w w' := by
 have HBX := Lib.hid (bx_start w #[.string sn, .slice A nf c, .slice A2 nb c2] 43)
 have HCO := Lib.hid (con_fd _ (lst_keep h fdR_keep (fun _ h => h) (bel_keep HBX.out.b_bel)) hn 137 #[.pointer (some ⟨w.heap.size, 0, none⟩)] en_barred2 (fun f => isInB x.barred f.num) (fun f _ wr hbr => sbarred_f f wr w.heap.size (cell_under hbr (obj_cell HBX.out.b_blk 2)) (lst_keep (lst_keep h2 inR_keep (fun _ h => h) (bel_keep HBX.out.b_bel)) inR_keep (fun _ h => h) (bel_keep hbr)) hn2))
 have HD : Hid (x.fields.any (fun f => isInB x.barred f.num) = barredM x) := Lib.hid rfl
 rw [HD.out] at HCO
 have r1 := obj_cell (HBX.out).b_blk 1
 clear h h2 hn hn2 HD
 go_enter Tryz.func135, Tryz.ntmps135
 go_wp2_with (go_at_call 136; refine HCO.out.mono ?_; rintro e w2 ⟨rfl, hb⟩; replace HBX := Lib.hid (bx_step HBX.out hb); clear hb)
 go_ret
 exact ⟨rfl, HBX.out.b_bel⟩

theorem slost_m (s : Sc) {S1 : Nat → Prop} (w : World) {A A2 : Option Addr} {nf c nb c2 : Nat} {x : Ms} (sn : ByteArray) (b b1 b2 : Nat) {B B2 : Option Addr} {n cc n2 cc2 : Nat} (h : Lst 7 S1 fdR w A c x.fields) (hn : nf = x.fields.length)
 (hf : w.cell? ⟨b, 0, none⟩ = some (.func (.func 139) #[] #[.pointer (some ⟨b1, 0, none⟩), .pointer (some ⟨b2, 0, none⟩)]))
 (hc : w.cell? ⟨b1, 0, none⟩ = some (.slice B n cc)) (hc2 : w.cell? ⟨b2, 0, none⟩ = some (.slice B2 n2 cc2)) (hs : Sl w B cc (txts (eNames s))) (hs2 : Sl w B2 cc2 (txts (mNames s))) (hne : n = (eNames s).length) (hnm : n2 = (mNames s).length) :
 Calls Tryz.prog 141 (#[.agg #[.string sn, .slice A nf c, .slice A2 nb c2]] ++ #[.pointer (some ⟨b, 0, none⟩)]) w fun e w' => e = .returned (.bool (x.fields.any (lostF s))) ∧ Below w.heap.size w w' := by
 have HBX := Lib.hid (bx_start w #[.string sn, .slice A nf c, .slice A2 nb c2] 43)
 have HCO := Lib.hid (con_fd _ (lst_keep h fdR_keep (fun _ h => h) (bel_keep HBX.out.b_bel)) hn 139 #[.pointer (some ⟨b1, 0, none⟩), .pointer (some ⟨b2, 0, none⟩)] en_lost1 (lostF s) (fun f _ wr hbr => slost_f s f wr b1 b2 (cell_under hbr (cell_under HBX.out.b_bel hc)) (cell_under hbr (cell_under HBX.out.b_bel hc2)) ((hs.below HBX.out.b_bel (Nat.le_refl _)).below hbr (Nat.le_refl _)) ((hs2.below HBX.out.b_bel (Nat.le_refl _)).below hbr (Nat.le_refl _)) hne hnm))
 have r1 := obj_cell (HBX.out).b_blk 1
 have rf := cell_under HBX.out.b_bel hf
 obtain ⟨v, hv⟩ : ∃ v, v = x.fields.any (lostF s) := ⟨_, rfl⟩
 rw [← hv] at HCO ⊢
 clear h hn hf hc hc2 hs hs2 hne hnm hv
 go_enter Tryz.func141, Tryz.ntmps141
 go_wp2_with (go_at_call 136; refine HCO.out.mono ?_; rintro e w2 ⟨rfl, hb⟩; replace HBX := Lib.hid (bx_step HBX.out hb); clear hb)
 go_ret
 exact ⟨rfl, HBX.out.b_bel⟩

theorem ssome_any {S : Nat → Nat → Prop} (w : World) {A A2 : Option Addr} {n cap n2 cap2 : Nat} {s : Sc} (h : ScAt S w A n cap A2 n2 cap2 s) (ke km : Nat) (hke : Enters Tryz.prog ke) (hkm : Enters Tryz.prog km) (pe : En → Bool) (pm : Ms → Bool)
 (hpe : ∀ x ∈ s.enums, ∀ A1 cap1 wr, Lst 2 (S 0) vlR wr A1 cap1 x.values → Below w.heap.size w wr → Calls Tryz.prog ke #[.agg #[.string (strOf x.name), .slice A1 x.values.length cap1]] wr fun e w' => e = .returned (.bool (pe x)) ∧ Below wr.heap.size wr w')
 (hpm : ∀ x ∈ s.msgs, ∀ A1 cap1 A3 cap3 wr, Lst 7 (S 1) fdR wr A1 cap1 x.fields → Lst 1 (S 2) inR wr A3 cap3 x.barred → Below w.heap.size w wr → Calls Tryz.prog km #[.agg #[.string (strOf x.name), .slice A1 x.fields.length cap1, .slice A3 x.barred.length cap3]] wr fun e w' => e = .returned (.bool (pm x)) ∧ Below wr.heap.size wr w') :
 Calls Tryz.prog 115 #[.agg #[.slice A n cap, .slice A2 n2 cap2], .func (.func ke) #[] #[], .func (.func km) #[] #[]] w fun e w' => e = .returned (.bool (s.enums.any pe || s.msgs.any pm)) ∧ Below w.heap.size w w' := by
 have HBX := Lib.hid (bx_start w #[.slice A n cap, .slice A2 n2 cap2] 26)
 have HE := Lib.hid (fun u (hb : Below w.heap.size w u) => con_en u (scAt_bel h hb).s_e h.s_ne ke #[] hke pe (fun x hx A1 c1 hl wr hbr => hpe x hx A1 c1 wr (lst_keep hl vlR_keep (fun _ h => h) (bel_keep hbr)) (hb.trans (hbr.mono hb.size))))
 have HM := Lib.hid (fun u (hb : Below w.heap.size w u) => con_ms u (scAt_bel h hb).s_m h.s_nm km #[] hkm pm (fun x hx A1 c1 A3 c3 hl hl2 wr hbr => hpm x hx A1 c1 A3 c3 wr (lst_keep hl fdR_keep (fun _ h => h) (bel_keep hbr)) (lst_keep hl2 inR_keep (fun _ h => h) (bel_keep hbr)) (hb.trans (hbr.mono hb.size))))
 have HK : Hid (∀ u, Bx w u (.cells #[.slice A n cap, .slice A2 n2 cap2] 26 (0, 0)) → u.cell? ⟨w.heap.size, 1, none⟩ = some (.slice A2 n2 cap2)) := Lib.hid (fun u hb => obj_cell hb.b_blk 1)
 obtain ⟨a, ha⟩ : ∃ a, a = s.enums.any pe := ⟨_, rfl⟩
 obtain ⟨b, hb⟩ : ∃ b, b = s.msgs.any pm := ⟨_, rfl⟩
 rw [← ha] at HE
 rw [← hb] at HM
 rw [← ha, ← hb]
 have r0 := obj_cell (HBX.out).b_blk 0
 clear h hpe hpm ha hb hke hkm
 cases a
 all_goals
  go_enter Tryz.func115, Tryz.ntmps115
  go_wp2_with (first
   | (go_at_call 118; refine (HE.out _ HBX.out.b_bel).mono ?_; rintro e w2 ⟨rfl, hb⟩; replace HBX := Lib.hid (bx_step HBX.out hb); have r1 := HK.out _ HBX.out; clear hb)
   | (go_at_call 134; refine (HM.out _ HBX.out.b_bel).mono ?_; rintro e w3 ⟨rfl, hb⟩; replace HBX := Lib.hid (bx_step HBX.out hb); clear hb))
  go_ret
  exact ⟨rfl, HBX.out.b_bel⟩

set_option maxHeartbeats 4000000 in
theorem scrowded_any {S : Nat → Nat → Prop} (w : World) {A A2 : Option Addr} {n cap n2 cap2 : Nat} {s : Sc} (h : ScAt S w A n cap A2 n2 cap2 s) :
 Calls Tryz.prog 58 #[.agg #[.slice A n cap, .slice A2 n2 cap2]] w fun e w' => e = .returned (.bool (manyT s)) ∧ Below w.heap.size w w' := by
 obtain ⟨m1, m2, m3, m4⟩ := scAt_max h
 have HBX := Lib.hid (bx_start w #[.slice A n cap, .slice A2 n2 cap2] 26)
 have HS := Lib.hid (fun u (hb : Below w.heap.size w u) => ssome_any u (scAt_bel h hb) 116 117 en_crowd1 en_crowd2 manyE manyM (fun x _ A1 c1 wr _ _ => scrowd_e _ _ _ _ wr) (fun x _ A1 c1 A3 c3 wr _ _ _ => scrowd_m _ _ _ _ _ _ _ wr))
 have HP := Lib.hid (many_plain s)
 rw [← h.s_ne, ← h.s_nm] at HP
 rw [← HP.out]
 obtain ⟨v, hv⟩ : ∃ v, v = (s.enums.any manyE || s.msgs.any manyM) := ⟨_, rfl⟩
 rw [← hv] at HS ⊢
 have r0 := obj_cell (HBX.out).b_blk 0
 have r1 := obj_cell (HBX.out).b_blk 1
 have hways : (decide ((n : Int) > 3) = true ∧ decide (3 < n) = true) ∨ (decide ((n : Int) > 3) = false ∧ decide (3 < n) = false) := by
  by_cases h1 : 3 < n
  ·exact .inl ⟨decide_eq_true (by omega), decide_eq_true h1⟩
  ·exact .inr ⟨decide_eq_false (by omega), decide_eq_false h1⟩
 have hways2 : (decide ((n2 : Int) > 6) = true ∧ decide (6 < n2) = true) ∨ (decide ((n2 : Int) > 6) = false ∧ decide (6 < n2) = false) := by
  by_cases h1 : 6 < n2
  ·exact .inl ⟨decide_eq_true (by omega), decide_eq_true h1⟩
  ·exact .inr ⟨decide_eq_false (by omega), decide_eq_false h1⟩
 clear h hv HP
 rcases hways with ⟨k1, e1⟩ | ⟨k1, e1⟩ <;> rcases hways2 with ⟨k2, e2⟩ | ⟨k2, e2⟩
 all_goals
  rw [e1, e2]
  go_enter Tryz.func58, Tryz.ntmps58
  go_wp2_with (go_at_call 115; refine (HS.out _ HBX.out.b_bel).mono ?_; rintro e w2 ⟨rfl, hb⟩; replace HBX := Lib.hid (bx_step HBX.out hb); clear hb)
  go_ret
  exact ⟨rfl, HBX.out.b_bel⟩

theorem sempty_any {S : Nat → Nat → Prop} (w : World) {A A2 : Option Addr} {n cap n2 cap2 : Nat} {s : Sc} (h : ScAt S w A n cap A2 n2 cap2 s) :
 Calls Tryz.prog 59 #[.agg #[.slice A n cap, .slice A2 n2 cap2]] w fun e w' => e = .returned (.bool (noneT s)) ∧ Below w.heap.size w w' := by
 obtain ⟨m1, m2, m3, m4⟩ := scAt_max h
 have HBX := Lib.hid (bx_start w #[.slice A n cap, .slice A2 n2 cap2] 26)
 have HE := Lib.hid (fun u (hb : Below w.heap.size w u) => con_en u (scAt_bel h hb).s_e h.s_ne 119 #[] en_empty1 noneE (fun x hx A1 c1 hl wr hbr => sempty_e _ _ _ _ wr))
 have HP : Hid (noneT s = (decide (n2 = 0) || s.enums.any noneE)) := Lib.hid (by unfold noneT; rw [h.s_nm])
 rw [HP.out]
 obtain ⟨v, hv⟩ : ∃ v, v = s.enums.any noneE := ⟨_, rfl⟩
 rw [← hv] at HE ⊢
 have r0 := obj_cell (HBX.out).b_blk 0
 have r1 := obj_cell (HBX.out).b_blk 1
 clear h hv HP
 by_cases h0 : n2 = 0
 ·subst h0
  go_enter Tryz.func59, Tryz.ntmps59
  go_wp2_with (go_at_call 118; refine (HE.out _ HBX.out.b_bel).mono ?_; rintro e w2 ⟨rfl, hb⟩; replace HBX := Lib.hid (bx_step HBX.out hb); clear hb)
  go_ret
  exact ⟨rfl, HBX.out.b_bel⟩
 ·rw [decide_eq_false h0]
  have e1 : ((n2 : Int) == 0) = false := by rw [nat_eqz]; exact decide_eq_false h0
  go_enter Tryz.func59, Tryz.ntmps59
  go_wp2_with (go_at_call 118; refine (HE.out _ HBX.out.b_bel).mono ?_; rintro e w2 ⟨rfl, hb⟩; replace HBX := Lib.hid (bx_step HBX.out hb); clear hb)
  go_ret
  exact ⟨rfl, HBX.out.b_bel⟩

theorem sbarred_any {S : Nat → Nat → Prop} (w : World) {A A2 : Option Addr} {n cap n2 cap2 : Nat} {s : Sc} (h : ScAt S w A n cap A2 n2 cap2 s) :
 Calls Tryz.prog 64 #[.agg #[.slice A n cap, .slice A2 n2 cap2]] w fun e w' => e = .returned (.bool (barredT s)) ∧ Below w.heap.size w w' := by
 have HBX := Lib.hid (bx_start w #[.slice A n cap, .slice A2 n2 cap2] 26)
 have HM := Lib.hid (fun u (hb : Below w.heap.size w u) => con_ms u (scAt_bel h hb).s_m h.s_nm 135 #[] en_barred1 barredM (fun x hx A1 c1 A3 c3 hl hl2 wr hbr => sbarred_m wr _ (lst_keep hl fdR_keep (fun _ h => h) (bel_keep hbr)) (lst_keep hl2 inR_keep (fun _ h => h) (bel_keep hbr)) rfl rfl))
 have HD : Hid (s.msgs.any barredM = barredT s) := Lib.hid rfl
 rw [HD.out] at HM
 have r1 := obj_cell (HBX.out).b_blk 1
 clear h HD
 go_enter Tryz.func64, Tryz.ntmps64
 go_wp2_with (go_at_call 134; refine (HM.out _ HBX.out.b_bel).mono ?_; rintro e w3 ⟨rfl, hb⟩; replace HBX := Lib.hid (bx_step HBX.out hb); clear hb)
 go_ret
 exact ⟨rfl, HBX.out.b_bel⟩
end Go.Proofs.YtcjjphioeneiiaaGreatDoor

/- What the program's layer 15 asks of a whole schema, on: what rises. Conditions: those that each theorem names. -/
namespace Go.Proofs.YtcjjphioeneiiaaGreatDoor
open Go.RowKit
set_option linter.unusedVariables false
set_option maxRecDepth 100000

theorem sl_tail_in {w : World} {g off cap : Nat} {l : List (List UInt8)} (h : Sl w (some ⟨g, off, none⟩) cap (txts l)) (h1 : 1 ≤ l.length) : Sl w (some ⟨g, off + 1, none⟩) (cap - 1) (txts (l.drop 1)) := by
 have hle := h.le
 have hmx := h.max
 rw [txts_length] at hle
 refine ⟨by rw [txts_length, List.length_drop]; omega, by omega, (fun e => by cases e), fun j u hj => ⟨_, _, rfl, ?_⟩⟩
 rw [txts, List.getElem?_map, List.getElem?_drop] at hj
 obtain ⟨b, o, e, hc⟩ := h.at_ (1 + j) u (by rw [txts, List.getElem?_map]; exact hj)
 cases e
 rw [Nat.add_assoc]
 exact hc
theorem sl_tail_end {w : World} {A : Option Addr} {l : List (List UInt8)} (h : Sl w A 1 (txts l)) (h1 : 1 ≤ l.length) : Sl w A 0 (txts (l.drop 1)) := by
 have hle := h.le
 rw [txts_length] at hle
 have e : l.drop 1 = [] := List.drop_eq_nil_of_le hle
 rw [e]
 exact ⟨Nat.le_refl _, Nat.zero_le _, (fun _ => rfl), fun j u hj => by simp [txts] at hj⟩

set_option maxHeartbeats 8000000 in
theorem sunordered_any {S : Nat → Nat → Prop} (w : World) {A A2 : Option Addr} {n cap n2 cap2 : Nat} {s : Sc} (h : ScAt S w A n cap A2 n2 cap2 s) (hm1 : n ≤ 1000) (hm2 : n2 ≤ 1000) (h1 : 1 ≤ n2)
 (hval : ∀ e ∈ s.enums, 1 ≤ e.values.length ∧ e.values.length ≤ 1000) (hfl : ∀ m ∈ s.msgs, m.fields.length ≤ 1000) :
 Calls Tryz.prog 63 #[.agg #[.slice A n cap, .slice A2 n2 cap2]] w fun e w' => e = .returned (.bool (orderT s)) ∧ Below w.heap.size w w' := by
 obtain ⟨m1, m2, m3, m4⟩ := scAt_max h
 have HBX := Lib.hid (bx_start w #[.slice A n cap, .slice A2 n2 cap2] 26)
 have HE := Lib.hid (fun u (hb : Below w.heap.size w u) => senums_any u (scAt_bel h hb) hm1)
 have HM := Lib.hid (fun u (hb : Below w.heap.size w u) => smsgs_any u (scAt_bel h hb) hm2)
 have HS := Lib.hid (fun u (hb : Below w.heap.size w u) => ssome_any u (scAt_bel h hb) 132 133 (fun _ _ => rfl) (fun _ _ => rfl) orderE jumbledM (fun x hx A1 c1 wr hl _ => sastray_any wr _ hl rfl (hval x hx).1 (hval x hx).2) (fun x hx A1 c1 A3 c3 wr hl hl2 _ => sjumbled_any wr _ hl hl2 rfl rfl (hfl x hx)))
 have HK : Hid (∀ u, Bx w u (.cells #[.slice A n cap, .slice A2 n2 cap2] 26 (0, 0)) → u.cell? ⟨w.heap.size, 0, none⟩ = some (.slice A n cap) ∧ u.cell? ⟨w.heap.size, 1, none⟩ = some (.slice A2 n2 cap2)) := Lib.hid (fun u hb => ⟨obj_cell hb.b_blk 0, obj_cell hb.b_blk 1⟩)
 have HNE : Hid (n = (eNames s).length) := Lib.hid (by unfold eNames; rw [List.length_map]; exact h.s_ne)
 have HNM : Hid (n2 = (mNames s).length) := Lib.hid (by unfold mNames; rw [List.length_map]; exact h.s_nm)
 obtain ⟨r, hr⟩ : ∃ r, r = riseB (eNames s) := ⟨_, rfl⟩
 obtain ⟨q, hq⟩ : ∃ q, q = riseB ((mNames s).drop 1) := ⟨_, rfl⟩
 obtain ⟨v, hv⟩ : ∃ v, v = (s.enums.any orderE || s.msgs.any jumbledM) := ⟨_, rfl⟩
 have HR := Lib.hid hr
 have HQ := Lib.hid hq
 have HD : Hid (orderT s = ((!r || !q) || v)) := Lib.hid (by rw [hr, hq, hv, order_plain])
 rw [← hv] at HS
 rw [HD.out]
 have r0 := obj_cell (HBX.out).b_blk 0
 have r1 := obj_cell (HBX.out).b_blk 1
 clear h hval hfl hr hq hv HD
 go_enter Tryz.func63, Tryz.ntmps63
 go_wp2_with fail
 go_at_call 122
 refine (HM.out _ HBX.out.b_bel).mono ?_
 rintro e w2 ⟨A', cap', rfl, hs, hb⟩
 have q1 := hs.le
 have q2 := hs.max
 rw [txts_length, ← HNM.out] at q1
 unfold maxLen at q2
 obtain ⟨g, off, rfl, _⟩ := hs.lt (j := 0) (by rw [txts_length, ← HNM.out]; omega)
 replace HBX := Lib.hid (bx_step HBX.out hb)
 have HSM := Lib.hid hs
 clear hs hb r0 r1 HM
 obtain ⟨r0, r1⟩ := HK.out _ HBX.out
 by_cases hc : cap' = 1
 ·subst hc
  have HR2 := Lib.hid (fun u (hb : Below w2.heap.size w2 u) => id_ok.rise u _ _ 0 ((mNames s).drop 1) ((sl_tail_end HSM.out (by rw [← HNM.out]; omega)).below hb (Nat.le_refl _)) (by rw [List.length_drop, ← HNM.out]; omega))
  rw [← HQ.out] at HR2
  cases r <;> cases q
  all_goals
   go_wp2_with (first
    | (go_at_call 121; refine (HE.out _ HBX.out.b_bel).mono ?_; rintro e w3 ⟨A3, c3, rfl, hs, hb⟩; have HR1 := Lib.hid (id_ok.rise w3 A3 c3 n (eNames s) hs HNE.out); rw [← HR.out] at HR1; replace HBX := Lib.hid (bx_step HBX.out hb); have HB2 := Lib.hid hb; clear hs hb)
    | (go_at_call 131; refine HR1.out.mono ?_; rintro e w4 ⟨rfl, hb⟩; clear HR1; replace HBX := Lib.hid (bx_step HBX.out hb); replace HB2 := Lib.hid (HB2.out.trans (hb.mono HB2.out.size)); obtain ⟨r0, r1⟩ := HK.out _ HBX.out; clear hb)
    | (go_at_call 131; refine (HR2.out _ HB2.out).mono ?_; rintro e w5 ⟨rfl, hb⟩; clear HR2; replace HBX := Lib.hid (bx_step HBX.out hb); obtain ⟨r0, r1⟩ := HK.out _ HBX.out; clear hb)
    | (go_at_call 115; refine (HS.out _ HBX.out.b_bel).mono ?_; rintro e w6 ⟨rfl, hb⟩; replace HBX := Lib.hid (bx_step HBX.out hb); clear hb))
   go_ret
   exact ⟨rfl, HBX.out.b_bel⟩
 ·have HR2 := Lib.hid (fun u (hb : Below w2.heap.size w2 u) => id_ok.rise u _ _ (n2 - 1) ((mNames s).drop 1) ((sl_tail_in HSM.out (by rw [← HNM.out]; omega)).below hb (Nat.le_refl _)) (by rw [List.length_drop, ← HNM.out]))
  rw [← HQ.out] at HR2
  cases r <;> cases q
  all_goals
   go_wp2_with (first
    | (go_at_call 121; refine (HE.out _ HBX.out.b_bel).mono ?_; rintro e w3 ⟨A3, c3, rfl, hs, hb⟩; have HR1 := Lib.hid (id_ok.rise w3 A3 c3 n (eNames s) hs HNE.out); rw [← HR.out] at HR1; replace HBX := Lib.hid (bx_step HBX.out hb); have HB2 := Lib.hid hb; clear hs hb)
    | (go_at_call 131; refine HR1.out.mono ?_; rintro e w4 ⟨rfl, hb⟩; clear HR1; replace HBX := Lib.hid (bx_step HBX.out hb); replace HB2 := Lib.hid (HB2.out.trans (hb.mono HB2.out.size)); obtain ⟨r0, r1⟩ := HK.out _ HBX.out; clear hb)
    | (go_at_call 131; refine (HR2.out _ HB2.out).mono ?_; rintro e w5 ⟨rfl, hb⟩; clear HR2; replace HBX := Lib.hid (bx_step HBX.out hb); obtain ⟨r0, r1⟩ := HK.out _ HBX.out; clear hb)
    | (go_at_call 115; refine (HS.out _ HBX.out.b_bel).mono ?_; rintro e w6 ⟨rfl, hb⟩; replace HBX := Lib.hid (bx_step HBX.out hb); clear hb))
   go_ret
   exact ⟨rfl, HBX.out.b_bel⟩

end Go.Proofs.YtcjjphioeneiiaaGreatDoor
