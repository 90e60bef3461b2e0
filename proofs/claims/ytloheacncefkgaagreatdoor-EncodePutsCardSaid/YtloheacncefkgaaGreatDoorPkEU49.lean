/- Several texts in one: EnC, EnD, EnE, EnF, EnG, EnH. What each proves, and its conditions, stands at its own head. -/
import Derived.Test.YtloheacncefkgaaGreatDoorPkEU48
import Derived.Test.YtloheacncefkgaaGreatDoorPkEU43
import Derived.Test.YtloheacncefkgaaGreatDoorPkEU24
import Derived.Test.YtloheacncefkgaaGreatDoorPkEU42
import Derived.Laws.EntriesVeiled
import Derived.Test.YtloheacncefkgaaGreatDoorPkEU45
import Derived.Test.YtloheacncefkgaaGreatDoorPkEU34
/- The program's layer 21: message and value, which make the functions that write. Conditions: those that each theorem names. -/
namespace Go.Proofs.YtloheacncefkgaaGreatDoor
open Go.RowKit
set_option linter.unusedVariables false
set_option maxRecDepth 100000

/-- What message answers lies so: the slots' function, the message, the schema; none of the boxes is of X. -/
structure MsgF (X : Nat → Prop) (u : World) (pf pm pS : Nat) (SCH M : Array Value) : Prop where
 m_f : u.heap[pf]? = some (.cells #[.func (.func 70) #[] #[.pointer (some ⟨pm, 0, none⟩), .pointer (some ⟨pS, 0, none⟩)]] 118 (0, 0))
 m_m : u.heap[pm]? = some (.cells M 57 (0, 0))
 m_s : u.heap[pS]? = some (.cells SCH 25 (0, 0))
 m_n : ¬ X pf ∧ ¬ X pm ∧ ¬ X pS
theorem MsgF.goes {X X' : Nat → Prop} {u u' : World} {pf pm pS : Nat} {SCH M : Array Value} (h : MsgF X u pf pm pS SCH M) (ht : Touch X u u') (hX : ∀ k, X' k → X k ∨ u.heap.size ≤ k) : MsgF X' u' pf pm pS SCH M := by
 have hn : ∀ k, ¬ X k → k < u.heap.size → ¬ X' k := fun k h1 h2 h3 => by rcases hX k h3 with q | q; exact h1 q; omega
 exact ⟨(ht.block _ (lt_of_block h.m_f) h.m_n.1).trans h.m_f, (ht.block _ (lt_of_block h.m_m) h.m_n.2.1).trans h.m_m, (ht.block _ (lt_of_block h.m_s) h.m_n.2.2).trans h.m_s, hn _ h.m_n.1 (lt_of_block h.m_f), hn _ h.m_n.2.1 (lt_of_block h.m_m), hn _ h.m_n.2.2 (lt_of_block h.m_s)⟩
theorem MsgF.under {X : Nat → Prop} {u u' : World} {pf pm pS : Nat} {SCH M : Array Value} (h : MsgF X u pf pm pS SCH M) (hb : Below u.heap.size u u') : MsgF X u' pf pm pS SCH M := h.goes (Touch.of_below X hb) (fun _ h => .inl h)
/-- What message answers. -/
def EncMsg (u : World) (SCH M : Array Value) (e : Ending) (w' : World) : Prop := ∃ pf pm pS, e = .returned (.func (.func 76) #[] #[.pointer (some ⟨pf, 0, none⟩)]) ∧ Below u.heap.size u w' ∧ MsgF (fun k => k < u.heap.size) w' pf pm pS SCH M
set_option maxHeartbeats 16000000 in
theorem pmessage_any {s : Sc} {SS : Nat → Nat → Prop} (wB : World) {A A2 : Option Addr} {ne ca nm ca2 : Nat} (h : ScAt SS wB A ne ca A2 nm ca2 s) (name : List UInt8) {m : Ms} (hm : vMsg s name = some m) :
 ∃ A1 c1 A3 c3, Lst 7 (SS 1) fdR wB A1 c1 m.fields ∧ Lst 1 (SS 2) inR wB A3 c3 m.barred ∧ ∀ w, Below wB.heap.size wB w → Calls Tryz.prog 31 #[.agg #[.slice A ne ca, .slice A2 nm ca2], .string (strOf name)] w (EncMsg w #[.slice A ne ca, .slice A2 nm ca2] #[.string (strOf m.name), .slice A1 m.fields.length c1, .slice A3 m.barred.length c3]) := by
 rcases msg_way s name with ⟨hn1, hn2⟩ | ⟨mi, m2, hn1, him, hn2⟩
 ·rw [hn2] at hm; cases hm
 rw [hn2] at hm
 obtain rfl := Option.some.inj hm
 have hi2 := (List.getElem?_eq_some_iff.mp him).1
 have hnm := h.s_nm
 obtain ⟨ge, oe, A1, c1, A3, c3, rfl, _, hc, hl, hl2⟩ := ms_at h.s_m him
 refine ⟨A1, c1, A3, c3, hl, hl2, fun w hbw => ?_⟩
 have HM := Lib.hid (fun u (hb : Below w.heap.size w u) => fxmessage_any u (scAt_bel h (vbel hbw hb)) name)
 rw [hn1] at HM
 have HC := Lib.hid (fun u (hb : Below w.heap.size w u) => hc u (vbel hbw hb))
 obtain ⟨k1, k2, k3, k4⟩ := scAt_max h
 have hmi : mi < nm := by omega
 have e1 : decide ((mi : Int) < 0) = false := decide_eq_false (by omega)
 have e2 : decide ((mi : Int) < (nm : Int)) = true := decide_eq_true (by omega)
 have e3 : (mi : Int) < (nm : Int) := by omega
 have e4 : (0 : Int) ≤ (mi : Int) := by omega
 obtain ⟨nf, hnf⟩ : ∃ nf, nf = m2.fields.length := ⟨_, rfl⟩
 obtain ⟨nb, hnb⟩ : ∃ nb, nb = m2.barred.length := ⟨_, rfl⟩
 obtain ⟨sn, hsn⟩ : ∃ sn, sn = strOf m2.name := ⟨_, rfl⟩
 rw [← hnf, ← hnb, ← hsn]
 rw [← hnf, ← hnb, ← hsn] at HC
 clear h hc hl hl2 him hn1 hn2 hi2 hnf hnb hsn hbw hnm
 generalize strOf name = sm at *
 obtain ⟨w0, hw0⟩ : ∃ w0, w0 = w.alloc (.cells #[.slice A ne ca, .slice (some ⟨ge, oe, none⟩) nm ca2] 25) := ⟨_, rfl⟩
 have hbx := bx_start w #[.slice A ne ca, .slice (some ⟨ge, oe, none⟩) nm ca2] 25
 rw [← hw0] at hbx
 have hsz : w0.heap.size = w.heap.size + 1 := by rw [hw0]; simp
 have HB0 := Lib.hid hbx
 have HSZ := Lib.hid hsz
 have HK : Hid (∀ u, Below w0.heap.size w0 u → (u.cell? ⟨w.heap.size, 0, none⟩ = some (.slice A ne ca) ∧ u.cell? ⟨w.heap.size, 1, none⟩ = some (.slice (some ⟨ge, oe, none⟩) nm ca2)) ∧ (u.cell? ⟨ge, oe + mi * 3, none⟩ = some (.string sn) ∧ u.cell? ⟨ge, oe + mi * 3 + 1, none⟩ = some (.slice A1 nf c1) ∧ u.cell? ⟨ge, oe + mi * 3 + 2, none⟩ = some (.slice A3 nb c3))) := Lib.hid (fun u hb => by
  have hu := bx_step HB0.out hb
  obtain ⟨c0, c1', c2⟩ := HC.out _ hu.b_bel
  exact ⟨⟨obj_cell hu.b_blk 0, obj_cell hu.b_blk 1⟩, c0, c1', c2⟩)
 have HFR : Hid (Below w0.heap.size w0 w0.drew) := Lib.hid (drewN_under w0 1)
 have HZW : Hid (Below w0.heap.size w0 (w0.alloc (.cells #[.string ⟨#[]⟩, .slice none 0 0, .slice none 0 0] 57)).drew) := Lib.hid ((Below.refl _ w0).alloc (Nat.le_refl _) _).drew
 have HZX : Hid ((w0.alloc (.cells #[.string ⟨#[]⟩, .slice none 0 0, .slice none 0 0] 57)).drew.heap[w0.heap.size]? = some (.cells #[.string ⟨#[]⟩, .slice none 0 0, .slice none 0 0] 57 (0, 0))) := Lib.hid (heap_alloc_new w0 _)
 have HW8 : Hid (Below w.heap.size w w0.drew) := Lib.hid HB0.out.b_bel.drew
 have HZA : Hid (Below w.heap.size w (w0.alloc (.cells #[.string ⟨#[]⟩, .slice none 0 0, .slice none 0 0] 57)).drew) := Lib.hid (HB0.out.b_bel.trans (HZW.out.mono HB0.out.b_bel.size))
 clear hbx hsz
 go_enter Tryz.func31, Tryz.ntmps31
 go_wp2
 rw [← hw0]
 have HW0 := Lib.hid hw0
 clear hw0
 obtain ⟨⟨a0, a1⟩, m0, m1, m2⟩ := HK.out _ (Below.refl _ _)
 go_cut [5] from 7 (fun t wx => ∃ pm, t = .pointer (some ⟨pm, 0, none⟩) ∧ w.heap.size ≤ pm ∧ Bx w wx (.cells #[.slice A ne ca, .slice (some ⟨ge, oe, none⟩) nm ca2] 25 (0, 0)) ∧ wx.heap[pm]? = some (.cells #[.string sn, .slice A1 nf c1, .slice A3 nb c3] 57 (0, 0)))
 case first =>
  go_region_held3 (fun u => (u.cell? ⟨w.heap.size, 0, none⟩ = some (.slice A ne ca) ∧ u.cell? ⟨w.heap.size, 1, none⟩ = some (.slice (some ⟨ge, oe, none⟩) nm ca2)) ∧ (u.cell? ⟨ge, oe + mi * 3, none⟩ = some (.string sn) ∧ u.cell? ⟨ge, oe + mi * 3 + 1, none⟩ = some (.slice A1 nf c1) ∧ u.cell? ⟨ge, oe + mi * 3 + 2, none⟩ = some (.slice A3 nb c3)))
   (exact HK.out _ (by repeat' (first | with_reducible exact HFR.out | with_reducible exact HZW.out | with_reducible exact HFR.out.size | with_reducible refine Below.alloc ?_ ?_ _ | with_reducible refine Below.setCell ?_ ?_ _ | (simp; done))))
   (first
    | (go_at_call 27; refine (HM.out _ (by with_reducible exact HW8.out)).mono ?_; rintro e w1 ⟨rfl, hb⟩; replace HFR := Lib.hid (HFR.out.trans (hb.mono HFR.out.size)); clear hb)
    | (go_at_call 27; refine (HM.out _ (by with_reducible exact HZA.out)).mono ?_; rintro e w1 ⟨rfl, hb⟩; have hxz := (hb.block _ (lt_of_block HZX.out)).trans HZX.out; have z0 := obj_cell hxz 0; have z1 := obj_cell hxz 1; have z2 := obj_cell hxz 2; have f0 := obj_free hxz 0; have f1 := obj_free hxz 1; have f2 := obj_free hxz 2; have HXZ := Lib.hid hxz; replace HFR := Lib.hid (HZW.out.trans (hb.mono HZW.out.size)); clear hb hxz))
  ·have hbw : Below w0.heap.size w0 (w1.alloc (.cells #[.string sn, .slice A1 nf c1, .slice A3 nb c3] 57)) := HFR.out.alloc HFR.out.size _
   have hmb : (w1.alloc (.cells #[.string sn, .slice A1 nf c1, .slice A3 nb c3] 57)).heap[w1.heap.size]? = some (.cells #[.string sn, .slice A1 nf c1, .slice A3 nb c3] 57 (0, 0)) := heap_alloc_new w1 _
   go_wp2
   go_meet
   case rel => exact ⟨_, rfl, Nat.le_trans HB0.out.b_bel.size HFR.out.size, bx_step HB0.out hbw, hmb⟩
  ·have hbw : Below w0.heap.size w0 (((w1.setCell ⟨w0.heap.size, 0, none⟩ (.string sn)).setCell ⟨w0.heap.size, 1, none⟩ (.slice A1 nf c1)).setCell ⟨w0.heap.size, 2, none⟩ (.slice A3 nb c3)) := ((HFR.out.setCell (p := ⟨w0.heap.size, 0, none⟩) (Nat.le_refl _) _).setCell (p := ⟨w0.heap.size, 1, none⟩) (Nat.le_refl _) _).setCell (p := ⟨w0.heap.size, 2, none⟩) (Nat.le_refl _) _
   have hmb : (((w1.setCell ⟨w0.heap.size, 0, none⟩ (.string sn)).setCell ⟨w0.heap.size, 1, none⟩ (.slice A1 nf c1)).setCell ⟨w0.heap.size, 2, none⟩ (.slice A3 nb c3)).heap[w0.heap.size]? = some (.cells #[.string sn, .slice A1 nf c1, .slice A3 nb c3] 57 (0, 0)) := (obj_set (obj_set (obj_set HXZ.out 0 _) 1 _) 2 _).trans rfl
   go_wp2
   go_meet
   case rel => exact ⟨_, rfl, HB0.out.b_bel.size, bx_step HB0.out hbw, hmb⟩
 case rest =>
  obtain ⟨pm, rfl, hpl, hbx, hpm⟩ := hcut
  have HBX := Lib.hid hbx
  have HPM := Lib.hid hpm
  have HPL := Lib.hid hpl
  clear HB0 HK HFR HZW HZX HW8 HZA HW0 a0 a1 m0 m1 m2 hbx hpm HM hpl
  go_wp2
  go_ret
  have hb := (Below.refl wc.heap.size wc).alloc (Nat.le_refl _) (.cells #[.func (.func 70) #[] #[.pointer (some ⟨pm, 0, none⟩), .pointer (some ⟨w.heap.size, 0, none⟩)]] 118)
  have hq := bx_step HBX.out hb
  exact ⟨wc.heap.size, pm, w.heap.size, rfl, hq.b_bel, heap_alloc_new wc _, (hb.block _ (lt_of_block HPM.out)).trans HPM.out, hq.b_blk, (fun h => by have := HBX.out.b_bel.size; omega), (fun h => by have := HPL.out; omega), Nat.lt_irrefl _⟩
/-- value, of what is no message. -/
theorem pvalue_num (f : Fd) (h15 : ¬ f.ty = 15) (SCH : Array Value) {A A2 : Option Addr} {ne ca nm ca2 : Nat} (hS : SCH = #[.slice A ne ca, .slice A2 nm ca2]) (u : World) :
 Calls Tryz.prog 75 #[.agg SCH, fdV f] u fun e w' => ∃ pd, e = .returned (.func (.func 116) #[] #[.pointer (some ⟨pd, 0, none⟩)]) ∧ u.heap.size ≤ pd ∧ Below u.heap.size u w' ∧ w'.heap[pd]? = some (.cells #[.string (strOf f.name), .int .i64 f.num, .int .i64 f.ty, .string (strOf f.ref), .bool f.rep, .bool f.loose, .string (strOf f.one)] 44 (0, 0)) := by
 subst hS
 obtain ⟨name, num, ty, ref, rep, loose, one⟩ := f
 unfold fdV
 dsimp only at *
 generalize strOf name = s0 at *
 generalize strOf one = s6 at *
 generalize strOf ref = s3 at *
 have g1 : (ty == 15) = false := beq_false_of_ne h15
 have g2 : (ty != 15) = true := bne_iff_ne.2 h15
 have HBX := Lib.hid (bx2_start u #[.slice A ne ca, .slice A2 nm ca2] #[.string s0, .int .i64 num, .int .i64 ty, .string s3, .bool rep, .bool loose, .string s6] 25 44)
 have c2 := obj_cell HBX.out.b2_two 2
 go_enter Tryz.func75, Tryz.ntmps75
 go_wp2
 go_ret
 exact ⟨_, rfl, Nat.le_succ _, HBX.out.b2_bel, HBX.out.b2_two⟩
/-- value, of a message. -/
theorem pvalue_msg (f : Fd) (h15 : f.ty = 15) (SCH M : Array Value) {A A2 : Option Addr} {ne ca nm ca2 : Nat} (hS : SCH = #[.slice A ne ca, .slice A2 nm ca2]) (u : World) (HM : ∀ w, Below u.heap.size u w → Calls Tryz.prog 31 #[.agg SCH, .string (strOf f.ref)] w (EncMsg w SCH M)) :
 Calls Tryz.prog 75 #[.agg SCH, fdV f] u fun e w' => ∃ pd pw pf pm pS, e = .returned (.func (.func 117) #[] #[.pointer (some ⟨pd, 0, none⟩), .pointer (some ⟨pw, 0, none⟩)]) ∧ u.heap.size ≤ pd ∧ u.heap.size ≤ pw ∧ Below u.heap.size u w' ∧ w'.heap[pd]? = some (.cells #[.string (strOf f.name), .int .i64 f.num, .int .i64 f.ty, .string (strOf f.ref), .bool f.rep, .bool f.loose, .string (strOf f.one)] 44 (0, 0)) ∧ w'.heap[pw]? = some (.cells #[.func (.func 76) #[] #[.pointer (some ⟨pf, 0, none⟩)]] 72 (0, 0)) ∧ MsgF (fun k => k < u.heap.size) w' pf pm pS SCH M := by
 subst hS
 obtain ⟨name, num, ty, ref, rep, loose, one⟩ := f
 unfold fdV
 dsimp only at *
 subst h15
 generalize strOf name = s0 at *
 generalize strOf one = s6 at *
 generalize strOf ref = s3 at *
 have HBX := Lib.hid (bx2_start u #[.slice A ne ca, .slice A2 nm ca2] #[.string s0, .int .i64 num, .int .i64 15, .string s3, .bool rep, .bool loose, .string s6] 25 44)
 have c0 := obj_cell HBX.out.b2_one 0
 have c1 := obj_cell HBX.out.b2_one 1
 have d2 := obj_cell HBX.out.b2_two 2
 have d3 := obj_cell HBX.out.b2_two 3
 have HMM := Lib.hid HM
 clear HM
 go_enter Tryz.func75, Tryz.ntmps75
 go_wp2_with (go_at_call 31; refine (HMM.out _ HBX.out.b2_bel).mono ?_; rintro e w2 ⟨pf, pm, pS, rfl, hb, hmf⟩; replace HBX := Lib.hid (bx2_step HBX.out hb); have HMF := Lib.hid hmf; clear hb hmf)
 go_ret
 have hb := (Below.refl w2.heap.size w2).alloc (Nat.le_refl _) (.cells #[.func (.func 76) #[] #[.pointer (some ⟨pf, 0, none⟩)]] 72)
 have hq := bx2_step HBX.out hb
 have hm := HMF.out.under hb
 have hle : ∀ k, k < u.heap.size → k < ((u.alloc (.cells #[.slice A ne ca, .slice A2 nm ca2] 25)).alloc (.cells #[.string s0, .int .i64 num, .int .i64 15, .string s3, .bool rep, .bool loose, .string s6] 44)).heap.size := fun k hk => by simp; omega
 exact ⟨_, w2.heap.size, pf, pm, pS, rfl, Nat.le_succ _, HBX.out.b2_bel.size, hq.b2_bel, hq.b2_two, heap_alloc_new w2 _, hm.m_f, hm.m_m, hm.m_s, fun h => hm.m_n.1 (hle _ h), fun h => hm.m_n.2.1 (hle _ h), fun h => hm.m_n.2.2 (hle _ h)⟩
end Go.Proofs.YtloheacncefkgaaGreatDoor

/- The program's layer 21: the functions that write one value. Conditions: those that each theorem names. -/
namespace Go.Proofs.YtloheacncefkgaaGreatDoor
open Go.RowKit
set_option linter.unusedVariables false
set_option maxRecDepth 100000

theorem frB_raw (num : Int) (t : List UInt8) : bytesR ⟨num, 2, 0, t⟩ = frB num t := by
 unfold bytesR valR frB
 dsimp only
 rw [if_neg (by decide), if_neg (by decide), if_neg (by decide)]
def fdC (f : Fd) : Array Value := #[.string (strOf f.name), .int .i64 f.num, .int .i64 f.ty, .string (strOf f.ref), .bool f.rep, .bool f.loose, .string (strOf f.one)]
set_option maxHeartbeats 8000000 in
/-- A value of a number type, or a text. -/
theorem pval1_any {B p : Nat} {S0 : Nat → Prop} {w : World} (env : ScEnv w) {init : List (List UInt8)} {a : List UInt8} {nums : List Int} (hs : SaysE B w p S0 ⟨init ++ [a], nums⟩) (f : Fd) {pd : Nat} (hpd : w.heap[pd]? = some (.cells (fdC f) 44 (0, 0))) (hnd : ¬ S0 pd) (v : Va) (C : Option Addr) (nk cc : Nat) (hty : Int64 f.ty) (hvn : v.vn < 18446744073709551616)
 (ho : okR ⟨f.num, wireT f.ty, toT f.ty v.vn, v.vs⟩ = true) (hvs : v.vs.length ≤ 100000000000) (hm : init.flatten.length + a.length ≤ 400000000000) :
 Calls Tryz.prog 116 #[.pointer (some ⟨p, 0, none⟩), .agg #[.int .u64 (v.vn : Int), .string (strOf v.vs), .slice C nk cc], .pointer (some ⟨pd, 0, none⟩)] w fun e w' => (∃ v, e = .returned v) ∧ EnAt B S0 w w' p ⟨init ++ [a ++ bytesR ⟨f.num, wireT f.ty, toT f.ty v.vn, v.vs⟩], nums⟩ := by
 have hlt := hs.lt
 have HWI := Lib.hid (fun u (hb : Below w.heap.size w u) => pwire_any f.ty u (env.rides hb))
 have HTO := Lib.hid (fun u (hb : Below w.heap.size w u) => pnto_any f.ty v.vn u (env.rides hb) hty hvn)
 obtain ⟨w1, hw1⟩ : ∃ w1, w1 = w.alloc (.cells #[.int .u64 (v.vn : Int), .string (strOf v.vs), .slice C nk cc] 64) := ⟨_, rfl⟩
 have hb1 : Below w.heap.size w w1 := by rw [hw1]; exact (Below.refl _ w).alloc (Nat.le_refl _) _
 have hv1 : w1.heap[w.heap.size]? = some (.cells #[.int .u64 (v.vn : Int), .string (strOf v.vs), .slice C nk cc] 64 (0, 0)) := by rw [hw1]; exact heap_alloc_new w _
 have hp1 : w1.heap[pd]? = some (.cells (fdC f) 44 (0, 0)) := (hb1.block _ (lt_of_block hpd)).trans hpd
 have HPL := Lib.hid (fun u (hb : Below w1.heap.size w1 u) => pplain_any (S0 := S0) (w0 := w1) (enAt_bel (enAt_refl (hs.bel_e hb1)) hb) ⟨f.num, wireT f.ty, toT f.ty v.vn, v.vs⟩ ho (to_lt _ _ hvn) hvs hm)
 have HK : Hid (∀ u, Touch S0 w1 u → (u.cell? ⟨pd, 1, none⟩ = some (.int .i64 f.num) ∧ u.cell? ⟨pd, 2, none⟩ = some (.int .i64 f.ty)) ∧ (u.cell? ⟨w.heap.size, 0, none⟩ = some (.int .u64 (v.vn : Int)) ∧ u.cell? ⟨w.heap.size, 1, none⟩ = some (.string (strOf v.vs)))) := Lib.hid (fun u ht => by
  have q1 := (ht.block _ (lt_of_block hp1) hnd).trans hp1
  have q2 := (ht.block _ (lt_of_block hv1) (fun h => by have := (hlt _ h).2; omega)).trans hv1
  exact ⟨⟨obj_cell q1 1, obj_cell q1 2⟩, obj_cell q2 0, obj_cell q2 1⟩)
 have HUP : Hid (∀ u m, EnAt B S0 w1 u p m → EnAt B S0 w u p m) := Lib.hid (fun u m h => enAt_more (fun _ hk => .inl hk) (Touch.of_below S0 hb1) h)
 have HB1 := Lib.hid hb1
 have HC0 := Lib.hid (Below.refl w1.heap.size w1)
 have HC := Lib.hid (drewN_under w1 1)
 unfold rawV at HPL
 dsimp only at HPL
 obtain ⟨bs, hbs⟩ : ∃ bs, bs = bytesR ⟨f.num, wireT f.ty, toT f.ty v.vn, v.vs⟩ := ⟨_, rfl⟩
 rw [← hbs] at HPL ⊢
 clear env hs hpd hnd hty hvn ho hvs hm hbs hlt hb1 hv1 hp1
 generalize f.num = num at *
 generalize f.ty = ty at *
 generalize wireT ty = wi at *
 generalize toT ty v.vn = tn at *
 generalize strOf v.vs = st at *
 generalize (v.vn : Int) = vn at *
 have HW1 := Lib.hid hw1
 go_enter Tryz.func116, Tryz.ntmps116
 go_wp2
 rw [← hw1]
 clear hw1
 obtain ⟨⟨c1, c2⟩, d0, d1⟩ := HK.out _ (Touch.of_below S0 HC0.out)
 go_region_held3 (fun u => (u.cell? ⟨pd, 1, none⟩ = some (.int .i64 num) ∧ u.cell? ⟨pd, 2, none⟩ = some (.int .i64 ty)) ∧ (u.cell? ⟨w.heap.size, 0, none⟩ = some (.int .u64 vn) ∧ u.cell? ⟨w.heap.size, 1, none⟩ = some (.string st)))
  (first | exact HK.out _ (Touch.of_below S0 HC.out) | exact HK.out _ (Touch.of_below S0 HC0.out) | exact HK.out _ (enAt_touch HE.out))
  (first
   | (go_at_call 91; refine (HWI.out _ (vbel HB1.out HC.out)).mono ?_; rintro e w2 ⟨rfl, hb⟩; replace HC := Lib.hid (vbel HC.out hb); clear hb)
   | (go_at_call 90; refine (HTO.out _ (vbel HB1.out HC.out)).mono ?_; rintro e w2 ⟨rfl, hb⟩; replace HC := Lib.hid (vbel HC.out hb); clear hb)
   | (go_at_call 79; refine (HPL.out _ HC.out).mono ?_; rintro e w3 ⟨⟨vv, rfl⟩, hea⟩; have HE := Lib.hid hea; clear hea HC HC0))
 all_goals
  go_wp2
  go_end0
  exact ⟨⟨_, rfl⟩, HUP.out _ _ HE.out⟩
set_option maxHeartbeats 8000000 in
/-- A message. -/
theorem pval2_any {B p : Nat} {S0 : Nat → Prop} {w : World} {init : List (List UInt8)} {a : List UInt8} {nums : List Int} (hs : SaysE B w p S0 ⟨init ++ [a], nums⟩) (f : Fd) {pd pw pf pm pS : Nat} (hpd : w.heap[pd]? = some (.cells (fdC f) 44 (0, 0))) (hnd : ¬ S0 pd) (hpw : w.heap[pw]? = some (.cells #[.func (.func 76) #[] #[.pointer (some ⟨pf, 0, none⟩)]] 72 (0, 0))) (hnw : ¬ S0 pw) {SCH M : Array Value} (hmf : MsgF S0 w pf pm pS SCH M)
 (vn : Int) (vs : ByteArray) {g o cc : Nat} {T1 T2 : Option Addr} {n1 d1 n2 d2 : Nat} (hkid : ∀ u, Touch S0 w u → u.cell? ⟨g, o, none⟩ = some (.slice T1 n1 d1) ∧ u.cell? ⟨g, o + 1, none⟩ = some (.slice T2 n2 d2)) (hr : rightB f.num 2 = true) (bs : List UInt8) (hm : init.flatten.length + a.length + (frB f.num bs).length ≤ 400000000000) (hn : nums.length ≤ 10000000000)
 (HR : ∀ u S', Touch S0 w u → SaysE B u p S' ⟨(init ++ [a]) ++ [[]], nums ++ [f.num]⟩ → MsgF S' u pf pm pS SCH M → (∀ k, S' k → S0 k ∨ w.heap.size ≤ k) → Calls Tryz.prog 76 #[.pointer (some ⟨p, 0, none⟩), .agg #[.slice T1 n1 d1, .slice T2 n2 d2], .pointer (some ⟨pf, 0, none⟩)] u fun e w' => (∃ v, e = .returned v) ∧ ∃ a2, Wrote (init ++ [a]).flatten.length [] bs a2 ∧ EnAt B S' u w' p ⟨(init ++ [a]) ++ [a2], nums ++ [f.num]⟩) :
 Calls Tryz.prog 117 #[.pointer (some ⟨p, 0, none⟩), .agg #[.int .u64 vn, .string vs, .slice (some ⟨g, o, none⟩) 1 cc], .pointer (some ⟨pd, 0, none⟩), .pointer (some ⟨pw, 0, none⟩)] w fun e w' => (∃ v, e = .returned v) ∧ ∃ a2, Wrote init.flatten.length a (frB f.num bs) a2 ∧ EnAt B S0 w w' p ⟨init ++ [a2], nums⟩ := by
 have hlt := hs.lt
 have hfl := frB_len f.num bs
 obtain ⟨w1, hw1⟩ : ∃ w1, w1 = w.alloc (.cells #[.int .u64 vn, .string vs, .slice (some ⟨g, o, none⟩) 1 cc] 64) := ⟨_, rfl⟩
 have hb1 : Below w.heap.size w w1 := by rw [hw1]; exact (Below.refl _ w).alloc (Nat.le_refl _) _
 have hv1 : w1.heap[w.heap.size]? = some (.cells #[.int .u64 vn, .string vs, .slice (some ⟨g, o, none⟩) 1 cc] 64 (0, 0)) := by rw [hw1]; exact heap_alloc_new w _
 have ht1 : Touch S0 w w1 := Touch.of_below S0 hb1
 have hp1 : w1.heap[pd]? = some (.cells (fdC f) 44 (0, 0)) := (hb1.block _ (lt_of_block hpd)).trans hpd
 have hq1 : w1.heap[pw]? = some (.cells #[.func (.func 76) #[] #[.pointer (some ⟨pf, 0, none⟩)]] 72 (0, 0)) := (hb1.block _ (lt_of_block hpw)).trans hpw
 have HOP := Lib.hid (e_open (S0 := S0) (w0 := w1) (enAt_refl (hs.bel_e hb1)) f.num hr (by show (init ++ [a]).flatten.length ≤ _; rw [parts_len]; omega) (by show nums.length ≤ _; omega))
 have HK : Hid (∀ u, Touch S0 w1 u → (u.cell? ⟨pw, 0, none⟩ = some (.func (.func 76) #[] #[.pointer (some ⟨pf, 0, none⟩)])) ∧ (u.cell? ⟨w.heap.size, 2, none⟩ = some (.slice (some ⟨g, o, none⟩) 1 cc)) ∧ (u.cell? ⟨g, o, none⟩ = some (.slice T1 n1 d1) ∧ u.cell? ⟨g, o + 1, none⟩ = some (.slice T2 n2 d2))) := Lib.hid (fun u ht => by
  have q1 := (ht.block _ (lt_of_block hq1) hnw).trans hq1
  have q2 := (ht.block _ (lt_of_block hv1) (fun h => by have := (hlt _ h).2; omega)).trans hv1
  exact ⟨obj_cell q1 0, obj_cell q2 2, hkid u (ht1.trans ht (fun _ h => .inl h))⟩)
 have c1 : w1.cell? ⟨pd, 1, none⟩ = some (.int .i64 f.num) := obj_cell hp1 1
 have HRN : Hid (∀ u x, Below x.heap.size x u → EnAt B S0 w1 x p ⟨(init ++ [a]) ++ [[]], nums ++ [f.num]⟩ → Calls Tryz.prog 76 #[.pointer (some ⟨p, 0, none⟩), .agg #[.slice T1 n1 d1, .slice T2 n2 d2], .pointer (some ⟨pf, 0, none⟩)] u fun e w' => (∃ v, e = .returned v) ∧ ∃ a2, Wrote (init ++ [a]).flatten.length [] bs a2 ∧ EnAt B S0 w1 w' p ⟨(init ++ [a]) ++ [a2], nums ++ [f.num]⟩) := Lib.hid (fun u x hb hx => by
  obtain ⟨S', q1, q2, q3⟩ := enAt_bel hx hb
  have hS : ∀ k, S' k → S0 k ∨ w.heap.size ≤ k := fun k hk => (q2 k hk).imp id (fun h => Nat.le_trans hb1.size h)
  have htw : Touch S0 w u := ht1.trans q3 (fun _ h => .inl h)
  refine (HR u S' htw q1 (hmf.goes htw hS) hS).mono ?_
  rintro e w' ⟨hv, a2, hw, he⟩
  exact ⟨hv, a2, hw, enAt_more q2 q3 he⟩)
 have HCL : Hid (∀ u a2, Wrote (init ++ [a]).flatten.length [] bs a2 → EnAt B S0 w1 u p ⟨(init ++ [a]) ++ [a2], nums ++ [f.num]⟩ → Calls Tryz.prog 119 #[.pointer (some ⟨p, 0, none⟩)] u fun e w' => e = .returned (.bool true) ∧ EnAt B S0 w1 w' p ⟨init ++ [a ++ frB f.num a2], nums⟩) := Lib.hid (fun u a2 hw he => by
  have hl := (wrote_len hw).2
  rw [List.length_nil, Nat.zero_add] at hl
  exact e_close (ini := init) (pen := a) (last := a2) (ns := nums) (num := f.num) he (by show (init ++ [a]) ++ [a2] = _; simp) rfl (by show ((init ++ [a]) ++ [a2]).flatten.length ≤ _; rw [parts_len, parts_len]; omega) (by show (nums ++ [f.num]).length ≤ _; rw [List.length_append, List.length_singleton]; omega))
 have HFR : Hid (∀ a2, Wrote (init ++ [a]).flatten.length [] bs a2 → Wrote init.flatten.length a (frB f.num bs) (a ++ frB f.num a2)) := Lib.hid (fun a2 h => by rw [parts_len] at h; exact wrote_frame h)
 have HUP : Hid (∀ u m, EnAt B S0 w1 u p m → EnAt B S0 w u p m) := Lib.hid (fun u m h => enAt_more (fun _ hk => .inl hk) ht1 h)
 have HT0 := Lib.hid (fun u x (hb : Below x.heap.size x u) m (hx : EnAt B S0 w1 x p m) => enAt_touch (enAt_bel hx hb))
 generalize hft : frB f.num bs = fb at *
 generalize f.num = num at *
 clear hs hpd hnd hpw hnw hmf hkid hr hm hn HR hlt hfl hb1 hv1 ht1 hp1 hq1 hft
 obtain ⟨wt, hwt⟩ : ∃ wt, wt = (init ++ [a]).flatten.length := ⟨_, rfl⟩
 have HW1 := Lib.hid hw1
 go_enter Tryz.func117, Tryz.ntmps117
 rw [hw1] at c1 HOP
 go_wp2_with (first
  | (go_at_call 118; refine HOP.out.mono ?_; rintro e w2 ⟨rfl, hea⟩; rw [← HW1.out] at hea; have HE := Lib.hid hea; have HC := Lib.hid (drewN_under w2 1); have HC0 := Lib.hid (Below.refl w2.heap.size w2); obtain ⟨c2, c3, c4, c5⟩ := HK.out _ (enAt_touch hea); clear hea))
 go_region_held3 (fun u => (u.cell? ⟨pw, 0, none⟩ = some (.func (.func 76) #[] #[.pointer (some ⟨pf, 0, none⟩)])) ∧ (u.cell? ⟨w.heap.size, 2, none⟩ = some (.slice (some ⟨g, o, none⟩) 1 cc)) ∧ (u.cell? ⟨g, o, none⟩ = some (.slice T1 n1 d1) ∧ u.cell? ⟨g, o + 1, none⟩ = some (.slice T2 n2 d2)))
  (first | exact HK.out _ (HT0.out _ _ HC.out _ HE.out) | exact HK.out _ (HT0.out _ _ HC0.out _ HE.out) | exact HK.out _ (enAt_touch HE3.out))
  (first
   | (go_at_call 76; refine (HRN.out _ _ HC.out HE.out).mono ?_; rintro e w3 ⟨⟨vv, rfl⟩, a2, hwr, hea⟩; have HWR := Lib.hid hwr; have HE3 := Lib.hid hea; clear hea hwr))
 all_goals
  go_wp2_with (go_at_call 119; refine (HCL.out _ _ HWR.out HE3.out).mono ?_; rintro e w4 ⟨rfl, hea⟩; have HE4 := Lib.hid hea; clear hea)
  go_end0
  exact ⟨⟨_, rfl⟩, _, HFR.out _ HWR.out, HUP.out _ _ HE4.out⟩
end Go.Proofs.YtloheacncefkgaaGreatDoor

/- The program's layer 21: value and each together, all values of a field that is not packed. Conditions: those that each theorem names. -/
namespace Go.Proofs.YtloheacncefkgaaGreatDoor
open Go.RowKit
set_option linter.unusedVariables false
set_option maxRecDepth 100000

/-- The program's writing of trees at a level. -/
def PRun (s : Sc) (n : Nat) : Prop := ∀ (SS : Nat → Nat → Prop) (S : Nat → Prop) (wB : World) (A : Option Addr) (ne ca : Nat) (A2 : Option Addr) (nm ca2 : Nat) (name : List UInt8) (m : Ms) (A1 : Option Addr) (c1 : Nat) (A3 : Option Addr) (c3 : Nat) (Bt : Option Addr) (na cb : Nat) (B2 : Option Addr) (nr cr : Nat) (x : Tr) (w : World) (p : Nat) (S0 : Nat → Prop) (init : List (List UInt8)) (a : List UInt8) (nums : List Int) (pf pm pS : Nat),
 ScEnv wB → ScAt SS wB A ne ca A2 nm ca2 s → vMsg s name = some m → Lst 7 (SS 1) fdR wB A1 c1 m.fields → Lst 1 (SS 2) inR wB A3 c3 m.barred → TrAt S n w Bt na cb B2 nr cr x → (∀ g, S g → g < wB.heap.size) → treeN s (n + 1) name x = true → OkN (n + 1) x → costN (n + 1) x ≤ 1000000000 →
 Below wB.heap.size wB w → SaysE wB.heap.size w p S0 ⟨init ++ [a], nums⟩ → MsgF S0 w pf pm pS #[.slice A ne ca, .slice A2 nm ca2] #[.string (strOf m.name), .slice A1 m.fields.length c1, .slice A3 m.barred.length c3] → init.flatten.length + a.length + (encN s (n + 1) name x).length ≤ 400000000000 → nums.length + costN (n + 1) x ≤ 10000000000 →
 Calls Tryz.prog 76 #[.pointer (some ⟨p, 0, none⟩), .agg #[.slice Bt na cb, .slice B2 nr cr], .pointer (some ⟨pf, 0, none⟩)] w fun e w' => (∃ v, e = .returned v) ∧ ∃ a2, Wrote init.flatten.length a (encN s (n + 1) name x) a2 ∧ EnAt wB.heap.size S0 w w' p ⟨init ++ [a2], nums⟩
theorem putR_flat {α : Type} (g : α → Rw) : ∀ l : List α, putR (l.map g) = l.flatMap (fun x => bytesR (g x))
 | [] => rfl
 | x :: l => by rw [List.map_cons, List.flatMap_cons, putR, putR_flat g l]
theorem raw_of {V : List UInt8 → Tr → Bool} {E : List UInt8 → Tr → List UInt8} {f : Fd} {v : Va} (h15 : ¬ f.ty = 15) (h : valT V f v = true) : (⟨f.num, wireT f.ty, toT f.ty v.vn, v.vs⟩ : Rw) = eRaw E f v := by
 rcases val_parts h with ⟨p, _, q, _⟩ | ⟨_, p, _⟩ | ⟨p, q, r, _⟩
 ·rw [eRaw_num p, q]
 ·exact absurd p h15
 ·rw [eRaw_txt p h15, r]
  rcases q with q | q <;> rw [q] <;> rfl
theorem pvals_any {s : Sc} {n : Nat} {SS : Nat → Nat → Prop} {S : Nat → Prop} (H : ∀ k, n = k + 1 → PRun s k) {wB : World} (env : ScEnv wB) {A A2 : Option Addr} {ne ca nm ca2 : Nat} (h : ScAt SS wB A ne ca A2 nm ca2 s) (u : World) (hbu : Below wB.heap.size wB u) {p : Nat} {S0 : Nat → Prop} {init : List (List UInt8)} {a : List UInt8} {nums : List Int} (hs : SaysE wB.heap.size u p S0 ⟨init ++ [a], nums⟩) (f : Fd) (hty : Int64 f.ty) (l : List Va) {C : Option Addr} {ln cc : Nat} (hln : ln = l.length) (hv : VsAt S n u C cc l) (hS : ∀ g, S g → g < wB.heap.size) (hne : l ≠ []) (hval : ∀ v ∈ l, valT (treeN s n) f v = true)
 (hok : ∀ v ∈ l, v.vn < 18446744073709551616 ∧ ∀ t ∈ v.vm, OkN n t ∧ costN n t ≤ 1000000000 ∧ nums.length + 1 + costN n t ≤ 10000000000) (hraw : ∀ r ∈ l.map (eRaw (encN s n) f), okR r = true ∧ r.s.length ≤ 40000000000) (htot : init.flatten.length + a.length + (putR (l.map (eRaw (encN s n) f))).length ≤ 400000000000) :
 Calls Tryz.prog 75 #[.agg #[.slice A ne ca, .slice A2 nm ca2], fdV f] u fun e w3 => ∃ kf caps, e = .returned (.func (.func kf) #[] caps) ∧ Below u.heap.size u w3 ∧ ∀ u2, Below w3.heap.size w3 u2 → Calls Tryz.prog 74 #[.pointer (some ⟨p, 0, none⟩), .slice C ln cc, .func (.func kf) #[] caps] u2 fun e w' => (∃ v, e = .returned v) ∧ ∃ a2, Wrote init.flatten.length a (putR (l.map (eRaw (encN s n) f))) a2 ∧ EnAt wB.heap.size S0 u w' p ⟨init ++ [a2], nums⟩ := by
 have hlt := hs.lt
 rw [putR_flat] at htot
 have hDS : ∀ k, S k → ¬ S0 k := fun k h1 h2 => by have := hS k h1; have := (hlt k h2).1; omega
 by_cases h15 : f.ty = 15
 ·obtain ⟨v0, hv0⟩ : ∃ v, v ∈ l := by
   cases l with
   | nil => exact absurd rfl hne
   | cons v l => exact ⟨v, List.mem_cons_self⟩
  obtain ⟨t0, ht0⟩ : ∃ t, treeN s n f.ref t = true := by
   rcases val_parts (hval v0 hv0) with ⟨p, _⟩ | ⟨_, _, _, _, t, _, hV⟩ | ⟨_, p, _⟩
   ·rw [h15] at p; exact absurd p (by decide)
   ·exact ⟨t, hV⟩
   ·omega
  obtain ⟨k, rfl⟩ : ∃ k, n = k + 1 := by
   cases n with
   | zero => cases ht0
   | succ k => exact ⟨k, rfl⟩
  obtain ⟨m', hm'⟩ : ∃ m', vMsg s f.ref = some m' := by
   cases hmm : vMsg s f.ref with
   | none => rw [treeN_none hmm] at ht0; cases ht0
   | some m' => exact ⟨m', rfl⟩
  obtain ⟨A1, c1, A3, c3, hL1, hL3, hmsg⟩ := pmessage_any wB h f.ref hm'
  refine (pvalue_msg f h15 _ _ rfl u (fun w hb => hmsg w (hbu.trans (hb.mono hbu.size)))).mono ?_
  rintro e w3 ⟨pd, pw, pf, pm, pS, rfl, hpd, hpw, hb3, hfd, hfw, hmf⟩
  refine ⟨_, _, rfl, hb3, fun u2 hb2 => ?_⟩
  have hbu2 : Below u.heap.size u u2 := vbel hb3 hb2
  have hs2 := hs.bel_e hbu2
  have hnpd : ¬ S0 pd := fun h => by have := (hlt _ h).2; omega
  have hnpw : ¬ S0 pw := fun h => by have := (hlt _ h).2; omega
  have hmf2 : MsgF S0 u2 pf pm pS #[.slice A ne ca, .slice A2 nm ca2] #[.string (strOf m'.name), .slice A1 m'.fields.length c1, .slice A3 m'.barred.length c3] := by
   have q := hmf.under hb2
   exact ⟨q.m_f, q.m_m, q.m_s, fun h => q.m_n.1 (hlt _ h).2, fun h => q.m_n.2.1 (hlt _ h).2, fun h => q.m_n.2.2 (hlt _ h).2⟩
  have hfd2 := (hb2.block _ (lt_of_block hfd)).trans hfd
  have hfw2 := (hb2.block _ (lt_of_block hfw)).trans hfw
  rw [putR_flat]
  refine (eac_va u2 (vsAt_bel hv hbu2) hln 117 _ (fun _ _ => rfl) hs2 hDS (fun v => bytesR (eRaw (encN s (k + 1)) f v)) htot ?_).mono (fun e w' ⟨h1, a2, h2, h3⟩ => ⟨h1, a2, h2, enAt_more (fun _ hk => .inl hk) (Touch.of_below S0 hbu2) h3⟩)
  intro i v hvi wr a' B1 d1 hea hbd hks
  have hvm := List.mem_of_getElem? hvi
  have hvl := hval v hvm
  rcases val_parts hvl with ⟨q, _⟩ | ⟨hnum, _, hvn, hvs, t, hvt, hV⟩ | ⟨_, q, _⟩
  ·rw [h15] at q; exact absurd q (by decide)
  ·have her : eRaw (encN s (k + 1)) f v = ⟨f.num, 2, 0, encN s (k + 1) f.ref t⟩ := eRaw_msg hnum h15 hvt
   have hr := hraw _ (List.mem_map.mpr ⟨v, hvm, rfl⟩)
   rw [her] at hr hbd ⊢
   rw [frB_raw] at hbd ⊢
   have hr2 := okR_right hr.1
   obtain ⟨S', q1, q2, q3⟩ := hea
   have hlt' := q1.lt
   have hnn : ∀ b, ¬ S0 b → b < u2.heap.size → ¬ S' b := fun b h1 h2 h3 => by rcases q2 b h3 with q | q; exact h1 q; omega
   obtain ⟨k', g, o, T1, n1, e1, T2, n2, e2, hk', rfl, _, hck, htk⟩ := kid_at hks (i := 0) (by rw [hvt]; rfl)
   obtain rfl : k = k' := by omega
   have hDS' : ∀ b, S b → ¬ S' b := fun b h1 h2 => by have := hS b h1; have := (hlt' b h2).1; omega
   have hl1 : v.vm.length = 1 := by rw [hvt]; rfl
   rw [hl1]
   have hu := (hok v hvm).2 t (by rw [hvt]; exact List.mem_cons_self)
   have hlf := frB_len f.num (encN s (k + 1) f.ref t)
   have hbr : Below wB.heap.size wB wr := (hbu.trans (hbu2.mono hbu.size)).trans (q3.below (Nat.le_trans hbu.size hbu2.size) (fun k hk => (hlt k hk).1))
   refine (pval2_any q1 f ((q3.block _ (lt_of_block hfd2) hnpd).trans hfd2) (hnn _ hnpd (lt_of_block hfd2)) ((q3.block _ (lt_of_block hfw2) hnpw).trans hfw2) (hnn _ hnpw (lt_of_block hfw2)) (hmf2.goes q3 q2) (v.vn : Int) (strOf v.vs) (fun z hz => by simpa using hck z (stay_touch hz hDS')) hr2 (encN s (k + 1) f.ref t) hbd (by omega) ?_).mono (fun e w' ⟨h1, a2, h2, h3⟩ => ⟨h1, a2, h2, enAt_more q2 q3 h3⟩)
   intro z S2 hz hs2' hmz hS2
   exact H k rfl SS S wB A ne ca A2 nm ca2 f.ref m' A1 c1 A3 c3 T1 n1 e1 T2 n2 e2 t z p S2 (init ++ [a']) [] (nums ++ [f.num]) pf pm pS env h hm' hL1 hL3 (trAt_keep htk (fun _ h => h) (stay_touch hz hDS')) hS hV hu.1 hu.2.1 (hbr.trans (hz.below hbr.size (fun k hk => (hlt' k hk).1))) hs2' hmz (by rw [parts_len, List.length_nil]; omega) (by rw [List.length_append, List.length_singleton]; have := hu.2.2; omega)
  ·omega
 ·refine (pvalue_num f h15 _ rfl u).mono ?_
  rintro e w3 ⟨pd, rfl, hpd, hb3, hfd⟩
  refine ⟨_, _, rfl, hb3, fun u2 hb2 => ?_⟩
  have hbu2 : Below u.heap.size u u2 := vbel hb3 hb2
  have hs2 := hs.bel_e hbu2
  have hnpd : ¬ S0 pd := fun h => by have := (hlt _ h).2; omega
  have hfd2 := (hb2.block _ (lt_of_block hfd)).trans hfd
  rw [putR_flat]
  refine (eac_va u2 (vsAt_bel hv hbu2) hln 116 _ (fun _ _ => rfl) hs2 hDS (fun v => bytesR (eRaw (encN s n) f v)) htot ?_).mono (fun e w' ⟨h1, a2, h2, h3⟩ => ⟨h1, a2, h2, enAt_more (fun _ hk => .inl hk) (Touch.of_below S0 hbu2) h3⟩)
  intro i v hvi wr a' B1 d1 hea hbd hks
  have hvm := List.mem_of_getElem? hvi
  have her := raw_of (E := encN s n) h15 (hval v hvm)
  have hr := hraw _ (List.mem_map.mpr ⟨v, hvm, rfl⟩)
  rw [← her] at hr hbd ⊢
  obtain ⟨S', q1, q2, q3⟩ := hea
  have hlt' := q1.lt
  have hnn : ¬ S' pd := fun h3 => by
   have hpl := lt_of_block hfd2
   rcases q2 pd h3 with q | q
   ·exact hnpd q
   ·omega
  have hbr : Below wB.heap.size wB wr := (hbu.trans (hbu2.mono hbu.size)).trans (q3.below (Nat.le_trans hbu.size hbu2.size) (fun k hk => (hlt k hk).1))
  exact (pval1_any (env.rides hbr) q1 f ((q3.block _ (lt_of_block hfd2) hnpd).trans hfd2) hnn v B1 _ d1 hty (hok v hvm).1 hr.1 (by have := hr.2; dsimp only at this; omega) (by omega)).mono (fun e w' ⟨h1, h2⟩ => ⟨h1, _, .inl rfl, enAt_more q2 q3 h2⟩)
end Go.Proofs.YtloheacncefkgaaGreatDoor

/- The program's layer 21: the function that writes a slot. Conditions: those that each theorem names. -/
namespace Go.Proofs.YtloheacncefkgaaGreatDoor
open Go.RowKit
set_option linter.unusedVariables false
set_option maxRecDepth 100000

set_option maxHeartbeats 32000000 in
theorem pslot_any {s : Sc} {n : Nat} {SS : Nat → Nat → Prop} {S : Nat → Prop} (H : ∀ k, n = k + 1 → PRun s k) {wB : World} (env : ScEnv wB) {A A2 : Option Addr} {ne ca nm ca2 : Nat} (h : ScAt SS wB A ne ca A2 nm ca2 s) {m : Ms} {A1 A3 : Option Addr} {c1 c3 : Nat} (hl : Lst 7 (SS 1) fdR wB A1 c1 m.fields) (hl2 : Lst 1 (SS 2) inR wB A3 c3 m.barred) (hty : ∀ f ∈ m.fields, Int64 f.ty)
 (w : World) (hbw : Below wB.heap.size wB w) {p : Nat} {S0 : Nat → Prop} {init : List (List UInt8)} {a : List UInt8} {nums : List Int} (hs : SaysE wB.heap.size w p S0 ⟨init ++ [a], nums⟩) {pm pS : Nat} (hpm : w.heap[pm]? = some (.cells #[.string (strOf m.name), .slice A1 m.fields.length c1, .slice A3 m.barred.length c3] 57 (0, 0))) (hpS : w.heap[pS]? = some (.cells #[.slice A ne ca, .slice A2 nm ca2] 25 (0, 0))) (hnm : ¬ S0 pm) (hnS : ¬ S0 pS)
 (y : Slt) {C : Option Addr} {ln cc : Nat} (hln : ln = y.svals.length) (hv : VsAt S n w C cc y.svals) (hS : ∀ g, S g → g < wB.heap.size) (hsl : slotT (treeN s n) m y = true)
 (hok : ∀ v ∈ y.svals, v.vn < 18446744073709551616 ∧ ∀ t ∈ v.vm, OkN n t ∧ costN n t ≤ 1000000000 ∧ nums.length + 1 + costN n t ≤ 10000000000) (hlen : y.svals.length ≤ 1000000000) (hraw : ∀ r ∈ xRaws (encN s n) m y, okR r = true ∧ r.s.length ≤ 40000000000) (htot : init.flatten.length + a.length + (putR (xRaws (encN s n) m y)).length ≤ 400000000000) :
 Calls Tryz.prog 70 #[.pointer (some ⟨p, 0, none⟩), .agg #[.int .i64 y.snum, .slice C ln cc], .pointer (some ⟨pm, 0, none⟩), .pointer (some ⟨pS, 0, none⟩)] w fun e w' => (∃ v, e = .returned v) ∧ ∃ a2, Wrote init.flatten.length a (putR (xRaws (encN s n) m y)) a2 ∧ EnAt wB.heap.size S0 w w' p ⟨init ++ [a2], nums⟩ := by
 have hlt := hs.lt
 obtain ⟨f0, f1, hne, f3⟩ := slotT_parts hsl
 rcases fld_way m y.snum with ⟨_, e2⟩ | ⟨fi, f, e1, e2, e3⟩
 ·rw [e2] at f1; cases f1
 rw [e3] at f1
 obtain rfl := Option.some.inj f1
 have hfi := (List.getElem?_eq_some_iff.mp e2).1
 obtain ⟨gf, off, rfl, _, hcf⟩ := fd_at hl e2
 have p1 := hl.l_le
 have p2 := hl.l_max
 unfold maxLen at p2
 have hft := hty f (List.mem_of_getElem? e2)
 rw [xRaws_some e3] at hraw htot ⊢
 -- the world behind the slot's box
 obtain ⟨w0, hw0⟩ : ∃ w0, w0 = w.alloc (.cells #[.int .i64 y.snum, .slice C ln cc] 67) := ⟨_, rfl⟩
 have hbx : Bx w w0 (.cells #[.int .i64 y.snum, .slice C ln cc] 67 (0, 0)) := by rw [hw0]; exact bx_start w _ _
 have HB0 := Lib.hid hbx
 have HTO : Hid (∀ u, Below w.heap.size w u → Below wB.heap.size wB u) := Lib.hid (fun u hb => hbw.trans (hb.mono hbw.size))
 have HN : Hid (∀ u, Below w.heap.size w u → Calls Tryz.prog 60 #[.agg #[.string (strOf m.name), .slice (some ⟨gf, off, none⟩) m.fields.length c1, .slice A3 m.barred.length c3], .int .i64 y.snum] u fun e w' => e = .returned (.int .i64 (fi : Int)) ∧ Below u.heap.size u w') := Lib.hid (fun u hb => by
  have q := fxnumber_any u (strOf m.name) (lst_keep (S' := SS 1) hl fdR_keep (fun _ h => h) (bel_keep (HTO.out u hb))) (lst_keep (S' := SS 2) hl2 inR_keep (fun _ h => h) (bel_keep (HTO.out u hb))) rfl rfl y.snum
  rw [e1] at q
  exact q)
 have HPA := Lib.hid (fun u (hb : Below w.heap.size w u) => fppacked_any f u (env.rides (HTO.out u hb)))
 -- what each way of writing gives, from a world wc on
 have HNU : Hid (∀ u, Below w.heap.size w u → Calls Tryz.prog 73 #[.slice C ln cc] u fun e w' => ∃ A9 c9, e = .returned (.slice A9 ln c9) ∧ Sl w' A9 c9 (u64s (y.svals.map (·.vn))) ∧ Below u.heap.size u w') := Lib.hid (fun u hb => pnumbers_any u (vsAt_bel hv hb) hln (by omega))
 have HPC : Hid (∀ u A9 c9, Below w.heap.size w u → Sl u A9 c9 (u64s (y.svals.map (·.vn))) → Calls Tryz.prog 15 #[fdV f, .slice A9 ln c9] u fun e w' => e = .returned (.string (strOf (packB f (y.svals.map (·.vn))))) ∧ Below u.heap.size u w') := Lib.hid (fun u A9 c9 hb hsl => ppack_any f u (env.rides (HTO.out u hb)) hsl (by rw [List.length_map, hln]) (by rw [List.length_map]; omega) (fun x hx => by
  obtain ⟨v, hv', rfl⟩ := List.mem_map.mp hx
  exact (hok v hv').1))
 have HTX : Hid (packedT f = true → ∀ u, Below w.heap.size w u → Calls Tryz.prog 72 #[.pointer (some ⟨p, 0, none⟩), .int .i64 f.num, .string (strOf (packB f (y.svals.map (·.vn))))] u fun e w' => e = .returned (.bool true) ∧ ∃ a2, Wrote init.flatten.length a (putR (sRaws (encN s n) f y.svals)) a2 ∧ EnAt wB.heap.size S0 u w' p ⟨init ++ [a2], nums⟩) := Lib.hid (fun hpk u hb => by
  have e : sRaws (encN s n) f y.svals = [⟨f.num, 2, 0, packB f (y.svals.map (·.vn))⟩] := by unfold sRaws; rw [if_pos hpk]
  rw [e] at hraw htot ⊢
  have hr := hraw _ List.mem_cons_self
  rw [putR_one, frB_raw] at htot ⊢
  have hk : (packB f (y.svals.map (·.vn))).length ≤ 500000000000 := Nat.le_trans hr.2 (by decide)
  have hR := okR_right hr.1
  have hM : (init ++ [a]).flatten.length ≤ 500000000000 := by rw [parts_len]; clear hr hk; omega
  generalize packB f (y.svals.map (·.vn)) = pkb at *
  refine (e_text (init := init) (last := a) (S0 := S0) (w0 := u) (m := ⟨init ++ [a], nums⟩) (enAt_refl (hs.bel_e hb)) f.num hR pkb rfl hM hk).mono ?_
  rintro e w' ⟨rfl, he⟩
  exact ⟨rfl, _, .inl rfl, he⟩)
 have HVA : Hid (packedT f = false → ∀ u, Below w.heap.size w u → Calls Tryz.prog 75 #[.agg #[.slice A ne ca, .slice A2 nm ca2], fdV f] u fun e w3 => ∃ kf caps, e = .returned (.func (.func kf) #[] caps) ∧ Below u.heap.size u w3 ∧ ∀ u2, Below w3.heap.size w3 u2 → Calls Tryz.prog 74 #[.pointer (some ⟨p, 0, none⟩), .slice C ln cc, .func (.func kf) #[] caps] u2 fun e w' => (∃ v, e = .returned v) ∧ ∃ a2, Wrote init.flatten.length a (putR (sRaws (encN s n) f y.svals)) a2 ∧ EnAt wB.heap.size S0 u w' p ⟨init ++ [a2], nums⟩) := Lib.hid (fun hpk u hb => by
  rw [sRaws_not hpk] at hraw htot ⊢
  exact pvals_any H env h u (HTO.out u hb) (hs.bel_e hb) f hft y.svals hln (vsAt_bel hv hb) hS hne f3 hok hraw htot)
 have HUP : Hid (∀ u x m, Below w.heap.size w x → EnAt wB.heap.size S0 x u p m → EnAt wB.heap.size S0 w u p m) := Lib.hid (fun u x m hb h => enAt_more (fun _ hk => .inl hk) (Touch.of_below S0 hb) h)
 have HCF := Lib.hid (fun u (hb : Below w.heap.size w u) => hcf u (HTO.out u hb))
 have HPM := Lib.hid hpm
 have HPS := Lib.hid hpS
 have HNM := Lib.hid hnm
 have HNS := Lib.hid hnS
 have HLT : Hid (∀ k, S0 k → k < w.heap.size) := Lib.hid (fun k hk => (hlt k hk).2)
 obtain ⟨bs, hbs⟩ : ∃ bs, bs = putR (sRaws (encN s n) f y.svals) := ⟨_, rfl⟩
 rw [← hbs] at HTX HVA ⊢
 obtain ⟨pk, hpk⟩ : ∃ pk, pk = packedT f := ⟨_, rfl⟩
 rw [← hpk] at HPA HTX HVA
 obtain ⟨nf, hnf⟩ : ∃ nf, nf = m.fields.length := ⟨_, rfl⟩
 rw [← hnf] at HN HPM p1 hfi
 have r1 : decide ((fi : Int) < 0) = false := decide_eq_false (by omega)
 have r2 : decide ((fi : Int) < (nf : Int)) = true := decide_eq_true (by omega)
 have r3 : (fi : Int) < (nf : Int) := by omega
 have r4 : (0 : Int) ≤ (fi : Int) := by omega
 clear H env h hl hl2 hty hbw hs hpm hpS hnm hnS hln hv hS hsl hok hlen hraw htot hlt f1 hne f3 e1 e2 e3 hcf hft hbs hpk hnf hbx
 unfold fdV at HPA HPC HVA
 generalize strOf m.name = sn at *
 generalize m.barred.length = nb at *
 generalize u64s (y.svals.map (·.vn)) = NL at *
 generalize strOf (packB f (y.svals.map (·.vn))) = pkd at *
 generalize y.snum = zy at *
 generalize strOf f.name = s0 at *
 generalize strOf f.ref = s3 at *
 generalize strOf f.one = s6 at *
 generalize f.num = z1 at *
 generalize f.ty = z2 at *
 generalize f.rep = b4 at *
 generalize f.loose = b5 at *
 have HK : Hid (∀ u, Below w0.heap.size w0 u → (u.cell? ⟨pm, 0, none⟩ = some (.string sn) ∧ u.cell? ⟨pm, 1, none⟩ = some (.slice (some ⟨gf, off, none⟩) nf c1) ∧ u.cell? ⟨pm, 2, none⟩ = some (.slice A3 nb c3)) ∧ u.cell? ⟨w.heap.size, 0, none⟩ = some (.int .i64 zy) ∧ (u.cell? ⟨gf, off + fi * 7, none⟩ = some (.string s0) ∧ u.cell? ⟨gf, off + fi * 7 + 1, none⟩ = some (.int .i64 z1) ∧ u.cell? ⟨gf, off + fi * 7 + 2, none⟩ = some (.int .i64 z2) ∧ u.cell? ⟨gf, off + fi * 7 + 3, none⟩ = some (.string s3) ∧ u.cell? ⟨gf, off + fi * 7 + 4, none⟩ = some (.bool b4) ∧ u.cell? ⟨gf, off + fi * 7 + 5, none⟩ = some (.bool b5) ∧ u.cell? ⟨gf, off + fi * 7 + 6, none⟩ = some (.string s6))) := Lib.hid (fun u hb => by
  have hu := bx_step HB0.out hb
  have hq := (hu.b_bel.block _ (lt_of_block HPM.out)).trans HPM.out
  exact ⟨⟨obj_cell hq 0, obj_cell hq 1, obj_cell hq 2⟩, obj_cell hu.b_blk 0, HCF.out u hu.b_bel⟩)
 have HFR : Hid (Below w0.heap.size w0 w0.drew) := Lib.hid (drewN_under w0 1)
 have HZW : Hid (Below w0.heap.size w0 (w0.alloc (.cells #[.string ⟨#[]⟩, .int .i64 0, .int .i64 0, .string ⟨#[]⟩, .bool false, .bool false, .string ⟨#[]⟩] 44)).drew) := Lib.hid ((Below.refl _ w0).alloc (Nat.le_refl _) _).drew
 have HZX : Hid ((w0.alloc (.cells #[.string ⟨#[]⟩, .int .i64 0, .int .i64 0, .string ⟨#[]⟩, .bool false, .bool false, .string ⟨#[]⟩] 44)).drew.heap[w0.heap.size]? = some (.cells #[.string ⟨#[]⟩, .int .i64 0, .int .i64 0, .string ⟨#[]⟩, .bool false, .bool false, .string ⟨#[]⟩] 44 (0, 0))) := Lib.hid (heap_alloc_new w0 _)
 have HW8 : Hid (Below w.heap.size w w0.drew) := Lib.hid HB0.out.b_bel.drew
 have HZA : Hid (Below w.heap.size w (w0.alloc (.cells #[.string ⟨#[]⟩, .int .i64 0, .int .i64 0, .string ⟨#[]⟩, .bool false, .bool false, .string ⟨#[]⟩] 44)).drew) := Lib.hid (HB0.out.b_bel.trans (HZW.out.mono HB0.out.b_bel.size))
 go_enter Tryz.func70, Tryz.ntmps70
 go_wp2
 rw [← hw0]
 have HW0 := Lib.hid hw0
 clear hw0
 obtain ⟨⟨m0, m1, m2⟩, y0, i0, i1, i2, i3, i4, i5, i6⟩ := HK.out _ (Below.refl _ _)
 go_cut [6] from 7 (fun t wx => ∃ pd, t = .pointer (some ⟨pd, 0, none⟩) ∧ w.heap.size ≤ pd ∧ Bx w wx (.cells #[.int .i64 zy, .slice C ln cc] 67 (0, 0)) ∧ wx.heap[pd]? = some (.cells #[.string s0, .int .i64 z1, .int .i64 z2, .string s3, .bool b4, .bool b5, .string s6] 44 (0, 0)))
 case first =>
  go_region_held3 (fun u => (u.cell? ⟨pm, 0, none⟩ = some (.string sn) ∧ u.cell? ⟨pm, 1, none⟩ = some (.slice (some ⟨gf, off, none⟩) nf c1) ∧ u.cell? ⟨pm, 2, none⟩ = some (.slice A3 nb c3)) ∧ u.cell? ⟨w.heap.size, 0, none⟩ = some (.int .i64 zy) ∧ (u.cell? ⟨gf, off + fi * 7, none⟩ = some (.string s0) ∧ u.cell? ⟨gf, off + fi * 7 + 1, none⟩ = some (.int .i64 z1) ∧ u.cell? ⟨gf, off + fi * 7 + 2, none⟩ = some (.int .i64 z2) ∧ u.cell? ⟨gf, off + fi * 7 + 3, none⟩ = some (.string s3) ∧ u.cell? ⟨gf, off + fi * 7 + 4, none⟩ = some (.bool b4) ∧ u.cell? ⟨gf, off + fi * 7 + 5, none⟩ = some (.bool b5) ∧ u.cell? ⟨gf, off + fi * 7 + 6, none⟩ = some (.string s6)))
   (exact HK.out _ (by repeat' (first | with_reducible exact HFR.out | with_reducible exact HZW.out | with_reducible exact HFR.out.size | with_reducible refine Below.alloc ?_ ?_ _ | with_reducible refine Below.setCell ?_ ?_ _ | (simp; done))))
   (first
    | (go_at_call 60; refine (HN.out _ (by with_reducible exact HW8.out)).mono ?_; rintro e w1 ⟨rfl, hb⟩; replace HFR := Lib.hid (HFR.out.trans (hb.mono HFR.out.size)); clear hb)
    | (go_at_call 60; refine (HN.out _ (by with_reducible exact HZA.out)).mono ?_; rintro e w1 ⟨rfl, hb⟩; have hxz := (hb.block _ (lt_of_block HZX.out)).trans HZX.out; have z0 := obj_cell hxz 0; have z1' := obj_cell hxz 1; have z2' := obj_cell hxz 2; have z3' := obj_cell hxz 3; have z4' := obj_cell hxz 4; have z5' := obj_cell hxz 5; have z6' := obj_cell hxz 6; have f0 := obj_free hxz 0; have f1 := obj_free hxz 1; have f2 := obj_free hxz 2; have f3 := obj_free hxz 3; have f4 := obj_free hxz 4; have f5 := obj_free hxz 5; have f6 := obj_free hxz 6; have HXZ := Lib.hid hxz; replace HFR := Lib.hid (HZW.out.trans (hb.mono HZW.out.size)); clear hb hxz))
  ·have hbw : Below w0.heap.size w0 (w1.alloc (.cells #[.string s0, .int .i64 z1, .int .i64 z2, .string s3, .bool b4, .bool b5, .string s6] 44)) := HFR.out.alloc HFR.out.size _
   have hmb : (w1.alloc (.cells #[.string s0, .int .i64 z1, .int .i64 z2, .string s3, .bool b4, .bool b5, .string s6] 44)).heap[w1.heap.size]? = some (.cells #[.string s0, .int .i64 z1, .int .i64 z2, .string s3, .bool b4, .bool b5, .string s6] 44 (0, 0)) := heap_alloc_new w1 _
   go_wp2
   go_meet
   case rel => exact ⟨_, rfl, Nat.le_trans HB0.out.b_bel.size HFR.out.size, bx_step HB0.out hbw, hmb⟩
  ·have hbw : Below w0.heap.size w0 (((((((w1.setCell ⟨w0.heap.size, 0, none⟩ (.string s0)).setCell ⟨w0.heap.size, 1, none⟩ (.int .i64 z1)).setCell ⟨w0.heap.size, 2, none⟩ (.int .i64 z2)).setCell ⟨w0.heap.size, 3, none⟩ (.string s3)).setCell ⟨w0.heap.size, 4, none⟩ (.bool b4)).setCell ⟨w0.heap.size, 5, none⟩ (.bool b5)).setCell ⟨w0.heap.size, 6, none⟩ (.string s6)) := ((((((HFR.out.setCell (p := ⟨w0.heap.size, 0, none⟩) (Nat.le_refl _) _).setCell (p := ⟨w0.heap.size, 1, none⟩) (Nat.le_refl _) _).setCell (p := ⟨w0.heap.size, 2, none⟩) (Nat.le_refl _) _).setCell (p := ⟨w0.heap.size, 3, none⟩) (Nat.le_refl _) _).setCell (p := ⟨w0.heap.size, 4, none⟩) (Nat.le_refl _) _).setCell (p := ⟨w0.heap.size, 5, none⟩) (Nat.le_refl _) _).setCell (p := ⟨w0.heap.size, 6, none⟩) (Nat.le_refl _) _
   have hmb : (((((((w1.setCell ⟨w0.heap.size, 0, none⟩ (.string s0)).setCell ⟨w0.heap.size, 1, none⟩ (.int .i64 z1)).setCell ⟨w0.heap.size, 2, none⟩ (.int .i64 z2)).setCell ⟨w0.heap.size, 3, none⟩ (.string s3)).setCell ⟨w0.heap.size, 4, none⟩ (.bool b4)).setCell ⟨w0.heap.size, 5, none⟩ (.bool b5)).setCell ⟨w0.heap.size, 6, none⟩ (.string s6)).heap[w0.heap.size]? = some (.cells #[.string s0, .int .i64 z1, .int .i64 z2, .string s3, .bool b4, .bool b5, .string s6] 44 (0, 0)) := (obj_set (obj_set (obj_set (obj_set (obj_set (obj_set (obj_set HXZ.out 0 _) 1 _) 2 _) 3 _) 4 _) 5 _) 6 _).trans rfl
   go_wp2
   go_meet
   case rel => exact ⟨_, rfl, HB0.out.b_bel.size, bx_step HB0.out hbw, hmb⟩
 case rest =>
  obtain ⟨pd, rfl, hpl, hbx, hpd⟩ := hcut
  have HBX := Lib.hid hbx
  have HKT : Hid (∀ u, Touch S0 wc u → (u.cell? ⟨w.heap.size, 1, none⟩ = some (.slice C ln cc)) ∧ (u.cell? ⟨pS, 0, none⟩ = some (.slice A ne ca) ∧ u.cell? ⟨pS, 1, none⟩ = some (.slice A2 nm ca2)) ∧ (u.cell? ⟨pd, 0, none⟩ = some (.string s0) ∧ u.cell? ⟨pd, 1, none⟩ = some (.int .i64 z1) ∧ u.cell? ⟨pd, 2, none⟩ = some (.int .i64 z2) ∧ u.cell? ⟨pd, 3, none⟩ = some (.string s3) ∧ u.cell? ⟨pd, 4, none⟩ = some (.bool b4) ∧ u.cell? ⟨pd, 5, none⟩ = some (.bool b5) ∧ u.cell? ⟨pd, 6, none⟩ = some (.string s6))) := Lib.hid (fun u ht => by
   have q1 := (ht.block _ (lt_of_block hbx.b_blk) (fun h => by have := HLT.out _ h; omega)).trans hbx.b_blk
   have q2 := (ht.block _ (lt_of_block hpd) (fun h => by have := HLT.out _ h; omega)).trans hpd
   have h3 := (hbx.b_bel.block _ (lt_of_block HPS.out)).trans HPS.out
   have q3 := (ht.block _ (lt_of_block h3) HNS.out).trans h3
   exact ⟨obj_cell q1 1, ⟨obj_cell q3 0, obj_cell q3 1⟩, obj_cell q2 0, obj_cell q2 1, obj_cell q2 2, obj_cell q2 3, obj_cell q2 4, obj_cell q2 5, obj_cell q2 6⟩)
  clear HB0 HK HFR HZW HZX HW8 HZA HW0 m0 m1 m2 y0 i0 i1 i2 i3 i4 i5 i6 hbx hpd HN
  obtain ⟨k0, ⟨k1, k2⟩, d0, d1, d2, d3, d4, d5, d6⟩ := HKT.out _ (Touch.refl S0 wc)
  cases pk with
  | true =>
    replace HTX := Lib.hid (HTX.out rfl)
    clear HVA
    go_wp2_with (go_at_call 71; refine (HPA.out _ HBX.out.b_bel).mono ?_; rintro e w2 ⟨rfl, hb⟩; have HC0 := Lib.hid hb; clear hb)
    have HC := Lib.hid (HC0.out.drew)
    obtain ⟨k0, ⟨k1, k2⟩, d0, d1, d2, d3, d4, d5, d6⟩ := HKT.out _ (Touch.of_below S0 HC0.out)
    go_region_held3 (fun u => (u.cell? ⟨w.heap.size, 1, none⟩ = some (.slice C ln cc)) ∧ (u.cell? ⟨pS, 0, none⟩ = some (.slice A ne ca) ∧ u.cell? ⟨pS, 1, none⟩ = some (.slice A2 nm ca2)) ∧ (u.cell? ⟨pd, 0, none⟩ = some (.string s0) ∧ u.cell? ⟨pd, 1, none⟩ = some (.int .i64 z1) ∧ u.cell? ⟨pd, 2, none⟩ = some (.int .i64 z2) ∧ u.cell? ⟨pd, 3, none⟩ = some (.string s3) ∧ u.cell? ⟨pd, 4, none⟩ = some (.bool b4) ∧ u.cell? ⟨pd, 5, none⟩ = some (.bool b5) ∧ u.cell? ⟨pd, 6, none⟩ = some (.string s6)))
     (first | exact HKT.out _ (Touch.of_below S0 HC.out) | exact HKT.out _ (Touch.of_below S0 HC0.out) | exact HKT.out _ (HTW.out))
     (first
      | (go_at_call 73; refine (HNU.out _ (vbel HBX.out.b_bel HC.out)).mono ?_; rintro e w3 ⟨A9, c9, rfl, hsl, hb⟩; have HSL := Lib.hid hsl; replace HC := Lib.hid (vbel HC.out hb); clear hb hsl)
      | (go_at_call 15; refine (HPC.out _ _ _ (vbel HBX.out.b_bel HC.out) HSL.out).mono ?_; rintro e w4 ⟨rfl, hb⟩; replace HC := Lib.hid (vbel HC.out hb); clear hb)
      | (go_at_call 72; refine (HTX.out _ (vbel HBX.out.b_bel HC.out)).mono ?_; rintro e w5 ⟨rfl, a2, hwr, hea⟩; have HWR := Lib.hid hwr; have HTW := Lib.hid ((Touch.of_below S0 HC.out).trans (enAt_touch hea) (fun _ h => .inl h)); have HE := Lib.hid (HUP.out _ _ _ (vbel HBX.out.b_bel HC.out) hea); clear hwr hea HC HC0))
    all_goals
     go_wp2
     (try simp only [Exit.inBlock, Exit.then])
     refine bodyPost_ret (results_none rfl _ _ _) rfl ?_
     exact ⟨⟨_, rfl⟩, _, HWR.out, HE.out⟩
  | false =>
    replace HVA := Lib.hid (HVA.out rfl)
    clear HTX HPC HNU
    go_wp2_with (go_at_call 71; refine (HPA.out _ HBX.out.b_bel).mono ?_; rintro e w2 ⟨rfl, hb⟩; have HC0 := Lib.hid hb; clear hb)
    have HC := Lib.hid (HC0.out.drew)
    obtain ⟨k0, ⟨k1, k2⟩, d0, d1, d2, d3, d4, d5, d6⟩ := HKT.out _ (Touch.of_below S0 HC0.out)
    go_region_held3 (fun u => (u.cell? ⟨w.heap.size, 1, none⟩ = some (.slice C ln cc)) ∧ (u.cell? ⟨pS, 0, none⟩ = some (.slice A ne ca) ∧ u.cell? ⟨pS, 1, none⟩ = some (.slice A2 nm ca2)) ∧ (u.cell? ⟨pd, 0, none⟩ = some (.string s0) ∧ u.cell? ⟨pd, 1, none⟩ = some (.int .i64 z1) ∧ u.cell? ⟨pd, 2, none⟩ = some (.int .i64 z2) ∧ u.cell? ⟨pd, 3, none⟩ = some (.string s3) ∧ u.cell? ⟨pd, 4, none⟩ = some (.bool b4) ∧ u.cell? ⟨pd, 5, none⟩ = some (.bool b5) ∧ u.cell? ⟨pd, 6, none⟩ = some (.string s6)))
     (first | exact HKT.out _ (Touch.of_below S0 HC.out) | exact HKT.out _ (Touch.of_below S0 HC0.out) | exact HKT.out _ (HTW.out))
     (first
      | (go_at_call 75; refine (HVA.out _ (vbel HBX.out.b_bel HC.out)).mono ?_; rintro e w3 ⟨kf, caps, rfl, hb, hev⟩; have HEV := Lib.hid hev; have HCV := HC; replace HC := Lib.hid (vbel HC.out hb); clear hb hev)
      | (go_at_call 74; refine (HEV.out _ (Below.refl _ _)).mono ?_; rintro e w5 ⟨⟨vv, rfl⟩, a2, hwr, hea⟩; have HWR := Lib.hid hwr; have HTW := Lib.hid ((Touch.of_below S0 HCV.out).trans (enAt_touch hea) (fun _ h => .inl h)); have HE := Lib.hid (HUP.out _ _ _ (vbel HBX.out.b_bel HCV.out) hea); clear hwr hea HC HC0))
    all_goals
     go_wp2
     go_end0
     exact ⟨⟨_, rfl⟩, _, HWR.out, HE.out⟩
end Go.Proofs.YtloheacncefkgaaGreatDoor

/- The program's layer 21: the function that writes a tree, at every level. Conditions: those that each theorem names. -/
namespace Go.Proofs.YtloheacncefkgaaGreatDoor
open Go.RowKit
set_option linter.unusedVariables false
set_option maxRecDepth 100000

theorem putR_flatm {α : Type} (g : α → List Rw) : ∀ l : List α, putR (l.flatMap g) = l.flatMap (fun x => putR (g x))
 | [] => rfl
 | x :: l => by rw [List.flatMap_cons, List.flatMap_cons, putR_append, putR_flatm g l]
theorem putR_self (l : List Rw) : putR l = l.flatMap bytesR := by have := putR_flat (fun x : Rw => x) l; rwa [List.map_id'] at this
theorem raws_fit2 {s : Sc} (hc : checkT s = 0) {k : Nat} {m : Ms} {name : List UInt8} {x : Tr} (hm : vMsg s name = some m) (ht : treeN s (k + 1) name x = true) (ho : OkN (k + 1) x) (hcost : costN (k + 1) x ≤ 1000000000) :
 (putR (tRaws (encN s k) m x)).length ≤ 40000000000 ∧ ∀ r ∈ tRaws (encN s k) m x, okR r = true ∧ r.n < 18446744073709551616 ∧ r.s.length ≤ 40000000000 := by
 obtain ⟨h1, h2⟩ := raws_fit hc hm ht ho hcost
 refine ⟨h1, fun r hr => ⟨(h2 r hr).1, (h2 r hr).2.1, ?_⟩⟩
 by_cases hw : r.wire = 2
 ·exact Nat.le_trans (bytesR_len hw) (Nat.le_trans (bytesR_mem hr) h1)
 ·have h3 := (h2 r hr).1
  unfold okR at h3
  rw [if_neg hw, Bool.and_eq_true, Bool.and_eq_true, decide_eq_true_eq] at h3
  rw [h3.2.1]
  exact Nat.zero_le _
set_option maxHeartbeats 8000000 in
theorem prun_step {s : Sc} (hok : ScOk s) (hc0 : checkT s = 0) {n : Nat} (H : ∀ k, n = k + 1 → PRun s k) : PRun s n := by
 intro SS S wB A ne ca A2 nm ca2 name m A1 c1 A3 c3 Bt na cb B2 nr cr x w p S0 init a nums pf pm pS env h hm hl hl2 hx hS ht ho hcost hbw hs hmf htot hnum
 obtain ⟨hfit, hraws⟩ := raws_fit2 hc0 hm ht ho hcost
 rw [encN_some hm] at htot ⊢
 rw [treeN_some hm] at ht
 simp only [Bool.and_eq_true, decide_eq_true_eq, List.all_eq_true] at ht
 obtain ⟨_, x2, x3⟩ := ht
 have hmm := vMsg_mem hm
 have hty : ∀ f ∈ m.fields, Int64 f.ty := fun f hf => ((hok.2.2.2 m hmm).2.2.2.1 f hf).2.1
 have hlt := hs.lt
 have hDS : ∀ k, S k → ¬ S0 k := fun k h1 h2 => by have := hS k h1; have := (hlt k h2).1; omega
 have hsplit : putR (tRaws (encN s n) m x) = x.slots.flatMap (fun y => putR (xRaws (encN s n) m y)) ++ x.rest.flatMap bytesR := by
  unfold tRaws
  rw [putR_append, putR_flatm, ← putR_self]
 have hsl := congrArg List.length hsplit
 rw [List.length_append] at hsl
 rw [hsplit]
 obtain ⟨w1, hw1⟩ : ∃ w1, w1 = w.alloc (.cells #[.slice Bt na cb, .slice B2 nr cr] 29) := ⟨_, rfl⟩
 have hb1 : Below w.heap.size w w1 := by rw [hw1]; exact (Below.refl _ w).alloc (Nat.le_refl _) _
 have hx1 : w1.heap[w.heap.size]? = some (.cells #[.slice Bt na cb, .slice B2 nr cr] 29 (0, 0)) := by rw [hw1]; exact heap_alloc_new w _
 have hmf1 := hmf.under hb1
 have hs1 := hs.bel_e hb1
 have htx := trAt_bel hx hb1
 have hbw1 : Below wB.heap.size wB w1 := hbw.trans (hb1.mono hbw.size)
 have HS1 := Lib.hid (eac_sl w1 htx.t_s hx.t_ns 70 #[.pointer (some ⟨pm, 0, none⟩), .pointer (some ⟨pS, 0, none⟩)] (fun _ _ => rfl) hs1 hDS (fun y => putR (xRaws (encN s n) m y)) (by omega) (fun i y hy wr a' C c1' hea hbd hv => by
  have hmy := List.mem_of_getElem? hy
  have hslot : slotT (treeN s n) m y = true := by
   have := x2 i y hy
   unfold okS at this
   rw [Bool.and_eq_true] at this
   exact this.1
  obtain ⟨S', q1, q2, q3⟩ := hea
  have hnn : ∀ b, ¬ S0 b → b < w1.heap.size → ¬ S' b := fun b h1 h2 h3 => by rcases q2 b h3 with q | q; exact h1 q; omega
  have hoy := (ho.2.2.2 y hmy)
  refine (pslot_any H env h hl hl2 hty wr (hbw1.trans (q3.below hbw1.size (fun k hk => (hlt k hk).1))) q1 ((q3.block _ (lt_of_block hmf1.m_m) hmf1.m_n.2.1).trans hmf1.m_m) ((q3.block _ (lt_of_block hmf1.m_s) hmf1.m_n.2.2).trans hmf1.m_s) (hnn _ hmf1.m_n.2.1 (lt_of_block hmf1.m_m)) (hnn _ hmf1.m_n.2.2 (lt_of_block hmf1.m_s)) y rfl hv hS hslot (fun v hvm => ⟨(hoy.2 v hvm).1.2, fun t htm => ⟨(hoy.2 v hvm).2.2 t htm, ?_, ?_⟩⟩) ?_ (fun r hr => ?_) hbd).mono (fun e w' ⟨h1, a2, h2, h3⟩ => ⟨h1, a2, h2, enAt_more q2 q3 h3⟩)
  ·have := cost_kid (k := n) hmy hvm htm; omega
  ·have := cost_kid (k := n) hmy hvm htm; omega
  ·have h1 := sumB_mem (fun s : Slt => s.svals.length + sumB (fun v : Va => v.vs.length / 20 + sumB (fun u => 1 + costN n u) v.vm) s.svals) hmy
   rw [costN] at hcost
   omega
  ·have := hraws r (by unfold tRaws; exact List.mem_append_left _ (List.mem_flatMap.mpr ⟨y, hmy, hr⟩))
   exact ⟨this.1, this.2.2⟩))
 have HS2 : Hid (∀ u a1, EnAt wB.heap.size S0 w1 u p ⟨init ++ [a1], nums⟩ → Wrote init.flatten.length a (x.slots.flatMap (fun y => putR (xRaws (encN s n) m y))) a1 → Calls Tryz.prog 78 #[.pointer (some ⟨p, 0, none⟩), .slice B2 nr cr, .func (.func 79) #[] #[]] u fun e w' => (∃ v, e = .returned v) ∧ ∃ a2, Wrote init.flatten.length a (x.slots.flatMap (fun y => putR (xRaws (encN s n) m y)) ++ x.rest.flatMap bytesR) a2 ∧ EnAt wB.heap.size S0 w1 w' p ⟨init ++ [a2], nums⟩) := Lib.hid (fun u a1 hea hw => by
  obtain ⟨S', q1, q2, q3⟩ := hea
  have hlt' := q1.lt
  have hwl := wrote_len hw
  refine (eac_rw (n := 0) u (lst_keep htx.t_r (fun _ _ h => h) (fun _ h => h) (stay_touch q3 hDS)) hx.t_nr 79 #[] (fun _ _ => rfl) q1 (fun k h1 h2 => by have := hS k h1; have := (hlt' k h2).1; omega) bytesR (by omega) (fun i r hr wr a' he hbd => ?_)).mono (fun e w' ⟨h1, a2, h2, h3⟩ => ⟨h1, a2, wrote_trans hw h2, enAt_more q2 q3 h3⟩)
  have hrr := hraws r (by unfold tRaws; exact List.mem_append_right _ (List.mem_of_getElem? hr))
  exact (pplain_any he r hrr.1 hrr.2.1 (Nat.le_trans hrr.2.2 (by decide)) (by omega)).mono (fun e w' ⟨h1, h2⟩ => ⟨h1, _, .inl rfl, h2⟩))
 have HUP : Hid (∀ u m, EnAt wB.heap.size S0 w1 u p m → EnAt wB.heap.size S0 w u p m) := Lib.hid (fun u m h => enAt_more (fun _ hk => .inl hk) (Touch.of_below S0 hb1) h)
 have HK : Hid (∀ u, Touch S0 w1 u → u.cell? ⟨w.heap.size, 0, none⟩ = some (.slice Bt na cb) ∧ u.cell? ⟨w.heap.size, 1, none⟩ = some (.slice B2 nr cr)) := Lib.hid (fun u ht => by
  have q := (ht.block _ (lt_of_block hx1) (fun h => by have := (hlt _ h).2; omega)).trans hx1
  exact ⟨obj_cell q 0, obj_cell q 1⟩)
 have cf : w1.cell? ⟨pf, 0, none⟩ = some (.func (.func 70) #[] #[.pointer (some ⟨pm, 0, none⟩), .pointer (some ⟨pS, 0, none⟩)]) := obj_cell hmf1.m_f 0
 obtain ⟨t0, t1⟩ := HK.out _ (Touch.refl S0 w1)
 obtain ⟨B1, hB1⟩ : ∃ B1, B1 = x.slots.flatMap (fun y => putR (xRaws (encN s n) m y)) := ⟨_, rfl⟩
 obtain ⟨B3, hB3⟩ : ∃ B3, B3 = x.rest.flatMap bytesR := ⟨_, rfl⟩
 rw [← hB1] at HS1 HS2 ⊢
 rw [← hB3] at HS2 ⊢
 clear H env h hm hl hl2 hx hS ho hcost hbw hs hmf htot hnum hfit hraws x2 x3 hmm hty hlt hDS hsplit hsl hx1 hmf1 hs1 htx hbw1 hB1 hB3
 rw [hw1] at cf t0 t1
 have HW1 := Lib.hid hw1
 clear hb1 hw1
 go_enter Tryz.func76, Tryz.ntmps76
 go_wp2_with (first
  | (go_at_call 77; (with_reducible rw [← HW1.out]); refine HS1.out.mono ?_; rintro e w2 ⟨⟨v, rfl⟩, a1, hwr, hea⟩; have HWR := Lib.hid hwr; have HE := Lib.hid hea; obtain ⟨t0, t1⟩ := HK.out _ (enAt_touch hea); clear hwr hea)
  | (go_at_call 78; refine (HS2.out _ _ HE.out HWR.out).mono ?_; rintro e w3 ⟨⟨v3, rfl⟩, a2, hwr, hea⟩; have HWR2 := Lib.hid hwr; have HE2 := Lib.hid hea; clear hwr hea))
 go_end0
 exact ⟨⟨_, rfl⟩, _, HWR2.out, HUP.out _ _ HE2.out⟩
theorem prun_any {s : Sc} (hok : ScOk s) (hc0 : checkT s = 0) : ∀ n, PRun s n
 | 0 => prun_step hok hc0 (fun k hk => by cases hk)
 | n + 1 => prun_step hok hc0 (fun k hk => by cases hk; exact prun_any hok hc0 n)
end Go.Proofs.YtloheacncefkgaaGreatDoor

/- The program's layer 21: Put; what is asked of it. Conditions: those that each theorem names. -/
namespace Go.Proofs.YtloheacncefkgaaGreatDoor
open Go.RowKit
set_option linter.unusedVariables false
set_option maxRecDepth 100000

set_option maxHeartbeats 16000000 in
theorem pput_any {s : Sc} (hok : ScOk s) (hc0 : checkT s = 0) {n : Nat} {SS : Nat → Nat → Prop} {S : Nat → Prop} (w : World) (env : VdEnv w) {A A2 : Option Addr} {ne ca nm ca2 : Nat} (name : List UInt8) {B B2 : Option Addr} {na cb nr cr : Nat} {x : Tr} (h : ScAt SS w A ne ca A2 nm ca2 s) (hx0 : TrAt S n w B na cb B2 nr cr x) (hf : FitN (n + 1) x) (ho : OkN (n + 1) x) (hd : deepN (n + 1) x ≤ 900) (hcost : costN (n + 1) x ≤ 1000000000) :
 Calls Tryz.prog 11 #[.agg #[.slice A ne ca, .slice A2 nm ca2], .string (strOf name), .agg #[.slice B na cb, .slice B2 nr cr]] w (EnPut w (putB s (n + 1) name x) (putC s (n + 1) name x)) := by
 have hx := trAt_lt hx0
 have HBX := Lib.hid (bx2_start w #[.slice A ne ca, .slice A2 nm ca2] #[.slice B na cb, .slice B2 nr cr] 25 29)
 have HK : Hid (∀ u, Bx2 w u (.cells #[.slice A ne ca, .slice A2 nm ca2] 25 (0, 0)) (.cells #[.slice B na cb, .slice B2 nr cr] 29 (0, 0)) → u.cell? ⟨w.heap.size, 0, none⟩ = some (.slice A ne ca) ∧ u.cell? ⟨w.heap.size, 1, none⟩ = some (.slice A2 nm ca2) ∧ u.cell? ⟨w.heap.size + 1, 0, none⟩ = some (.slice B na cb) ∧ u.cell? ⟨w.heap.size + 1, 1, none⟩ = some (.slice B2 nr cr)) := Lib.hid (fun u hu => ⟨obj_cell hu.b2_one 0, obj_cell hu.b2_one 1, obj_cell hu.b2_two 0, obj_cell hu.b2_two 1⟩)
 obtain ⟨s0, s1, t0, t1⟩ := HK.out _ HBX.out
 have HM := Lib.hid (fun u (hb : Below w.heap.size w u) => fxmessage_any u (scAt_bel h hb) name)
 have HT := Lib.hid (fun u (hb : Below w.heap.size w u) => pvtree_any hok n SS S u A ne ca A2 nm ca2 name B na cb B2 nr cr x ⟨env.1.rides hb, env.2.goesOn hb⟩ (scAt_bel h hb) (trAt_bel hx0 hb) hf ho)
 have HD := Lib.hid (fun u (hb : Below w.heap.size w u) => pdeep_any u (trAt_bel hx0 hb) hd)
 have hways := put_ways s (n + 1) name x
 -- what writes: from the world in which the writer was made
 have HWR : Hid (¬ messageT s name < 0 → treeN s (n + 1) name x = true → ∃ M : Array Value, (∀ u, Below w.heap.size w u → Calls Tryz.prog 31 #[.agg #[.slice A ne ca, .slice A2 nm ca2], .string (strOf name)] u (EncMsg u #[.slice A ne ca, .slice A2 nm ca2] M)) ∧ ∀ (wB wN u x2 : World) (p pf pm pS : Nat), p = wB.heap.size → Below w.heap.size w wB → wN = wB.alloc (.cells #[.bool true, .slice none 0 0, .slice none 0 0, .slice none 0 0, .int .i64 0] 112) → Below wN.heap.size wN x2 → Below x2.heap.size x2 u → MsgF (fun k => k < x2.heap.size) u pf pm pS #[.slice A ne ca, .slice A2 nm ca2] M → Calls Tryz.prog 76 #[.pointer (some ⟨p, 0, none⟩), .agg #[.slice B na cb, .slice B2 nr cr], .pointer (some ⟨pf, 0, none⟩)] u fun e w' => (∃ v, e = .returned v) ∧ ∃ a2, Wrote 0 [] (encN s (n + 1) name x) a2 ∧ EnAt wB.heap.size (fun k => k = wB.heap.size) u w' p ⟨[a2], []⟩) := Lib.hid (fun hmn htt => by
  obtain ⟨m, hm⟩ : ∃ m, vMsg s name = some m := by
   cases hmm : vMsg s name with
   | none => rw [treeN_none hmm] at htt; cases htt
   | some m => exact ⟨m, rfl⟩
  obtain ⟨A1, c1, A3, c3, hl1, hl3, hmsg⟩ := pmessage_any w h name hm
  refine ⟨_, hmsg, fun wB wN u x2 p pf pm pS hp hbB hN hb2 hbu hmf => ?_⟩
  have hsN : SaysE wB.heap.size wN p (fun k => k = wB.heap.size) ⟨[] ++ [[]], []⟩ := by rw [hN, hp]; exact says_e_new wB
  have hbN : Below wB.heap.size wB wN := by rw [hN]; exact (Below.refl _ wB).alloc (Nat.le_refl _) _
  have hNu : Below wN.heap.size wN u := vbel hb2 hbu
  have hlen := enc_cost (s := s) (n + 1) name x ho (by omega)
  have hsz : wB.heap.size < wN.heap.size := by rw [hN]; simp
  have hn2 : ∀ k, k = wB.heap.size → k < x2.heap.size := fun k e => by rw [e]; exact Nat.lt_of_lt_of_le hsz hb2.size
  have q := prun_any hok hc0 n SS (fun g => S g ∧ g < w.heap.size) wB A ne ca A2 nm ca2 name m A1 c1 A3 c3 B na cb B2 nr cr x u p (fun k => k = wB.heap.size) [] [] [] pf pm pS (env.1.rides hbB) (scAt_bel h hbB) hm (lst_keep (S' := SS 1) hl1 fdR_keep (fun _ h => h) (bel_keep hbB)) (lst_keep (S' := SS 2) hl3 inR_keep (fun _ h => h) (bel_keep hbB)) (trAt_bel (trAt_bel hx hbB) (vbel hbN hNu)) (fun g hg => Nat.lt_of_lt_of_le hg.2 hbB.size) htt ho hcost (vbel hbN hNu) (hsN.bel_e hNu) ⟨hmf.m_f, hmf.m_m, hmf.m_s, fun h => hmf.m_n.1 (hn2 _ h), fun h => hmf.m_n.2.1 (hn2 _ h), fun h => hmf.m_n.2.2 (hn2 _ h)⟩ (by show 0 + 0 + _ ≤ _; omega) (by show 0 + _ ≤ _; omega)
  exact q)
 have HLO : Hid (∀ (wB u v : World) (p : Nat) (a2 : List UInt8), a2.length ≤ 500000000000 → EnAt wB.heap.size (fun k => k = wB.heap.size) u v p ⟨[a2], []⟩ → Calls Tryz.prog 32 #[.pointer (some ⟨p, 0, none⟩)] v fun e w' => e = .returned (.bool (decide (65536 < a2.length))) ∧ Below v.heap.size v w') := Lib.hid (fun wB u v p a2 hl he => plong_any he (by show ([a2] : List (List UInt8)).flatten.length = _; simp) (by omega))
 have hlenE : (encN s (n + 1) name x).length ≤ 500000000000 := by have := enc_cost (s := s) (n + 1) name x ho (by omega); omega
 obtain ⟨mz, hmz⟩ : ∃ z, z = messageT s name := ⟨_, rfl⟩
 obtain ⟨tb, htb⟩ : ∃ z, z = treeN s (n + 1) name x := ⟨_, rfl⟩
 obtain ⟨dp, hdp⟩ : ∃ z, z = deepN (n + 1) x := ⟨_, rfl⟩
 obtain ⟨en, hen⟩ : ∃ z, z = encN s (n + 1) name x := ⟨_, rfl⟩
 obtain ⟨pb, hpb⟩ : ∃ z, z = putB s (n + 1) name x := ⟨_, rfl⟩
 obtain ⟨pc, hpc⟩ : ∃ z, z = putC s (n + 1) name x := ⟨_, rfl⟩
 rw [← hmz] at HM
 rw [← htb] at HT
 rw [← hmz, ← htb, ← hen] at HWR
 rw [← hdp] at HD
 rw [← hen] at hlenE
 rw [← hmz, ← htb, ← hdp, ← hen, ← hpb, ← hpc] at hways
 rw [← hpb, ← hpc]
 clear env h hx hx0 hf ho hd hcost hmz htb hdp hen hpb hpc
 generalize strOf name = sm at *
 rcases hways with ⟨e1, rfl, rfl⟩ | ⟨e1, rfl, rfl, rfl⟩ | ⟨e1, rfl, e3, rfl, rfl⟩ | ⟨e1, rfl, e3, e4, rfl, rfl⟩ | ⟨e1, rfl, e3, e4, rfl, he⟩
 ·have g1 : decide (mz < 0) = true := decide_eq_true e1
  clear HWR
  go_enter Tryz.func11, Tryz.ntmps11
  go_wp2_with (go_at_call 27; refine (HM.out _ HBX.out.b2_bel).mono ?_; rintro e w2 ⟨rfl, hb⟩; replace HBX := Lib.hid (bx2_step HBX.out hb); obtain ⟨s0, s1, t0, t1⟩ := HK.out _ HBX.out; clear hb)
  go_ret2
  exact ⟨none, 0, rfl, bs_nil _, HBX.out.b2_bel⟩
 all_goals have g1 : decide (mz < 0) = false := decide_eq_false e1
 ·clear HWR
  go_enter Tryz.func11, Tryz.ntmps11
  go_wp2_with (first
   | (go_at_call 27; refine (HM.out _ HBX.out.b2_bel).mono ?_; rintro e w2 ⟨rfl, hb⟩; replace HBX := Lib.hid (bx2_step HBX.out hb); obtain ⟨s0, s1, t0, t1⟩ := HK.out _ HBX.out; clear hb)
   | (go_at_call 28; refine (HT.out _ HBX.out.b2_bel).mono ?_; rintro e w3 ⟨rfl, hb⟩; replace HBX := Lib.hid (bx2_step HBX.out hb); obtain ⟨s0, s1, t0, t1⟩ := HK.out _ HBX.out; clear hb))
  go_ret2
  exact ⟨none, 0, rfl, bs_nil _, HBX.out.b2_bel⟩
 ·have g2 : decide ((dp : Int) > 16) = true := decide_eq_true (by omega)
  have g3 : decide ((16 : Int) < (dp : Int)) = true := decide_eq_true (by omega)
  clear HWR
  go_enter Tryz.func11, Tryz.ntmps11
  go_wp2_with (first
   | (go_at_call 27; refine (HM.out _ HBX.out.b2_bel).mono ?_; rintro e w2 ⟨rfl, hb⟩; replace HBX := Lib.hid (bx2_step HBX.out hb); obtain ⟨s0, s1, t0, t1⟩ := HK.out _ HBX.out; clear hb)
   | (go_at_call 28; refine (HT.out _ HBX.out.b2_bel).mono ?_; rintro e w3 ⟨rfl, hb⟩; replace HBX := Lib.hid (bx2_step HBX.out hb); obtain ⟨s0, s1, t0, t1⟩ := HK.out _ HBX.out; clear hb)
   | (go_at_call 29; refine (HD.out _ HBX.out.b2_bel).mono ?_; rintro e w4 ⟨rfl, hb⟩; replace HBX := Lib.hid (bx2_step HBX.out hb); obtain ⟨s0, s1, t0, t1⟩ := HK.out _ HBX.out; clear hb))
  go_ret2
  exact ⟨none, 0, rfl, bs_nil _, HBX.out.b2_bel⟩
 all_goals have g2 : decide ((dp : Int) > 16) = false := decide_eq_false (by omega)
 all_goals have g3 : decide ((16 : Int) < (dp : Int)) = false := decide_eq_false (by omega)
 all_goals
  obtain ⟨M, hms, hrn⟩ := HWR.out e1 rfl
  have HMS := Lib.hid hms
  have HRN := Lib.hid hrn
  clear HWR hms hrn
  go_enter Tryz.func11, Tryz.ntmps11
  go_wp2_with (first
   | (go_at_call 27; refine (HM.out _ HBX.out.b2_bel).mono ?_; rintro e w2 ⟨rfl, hb⟩; replace HBX := Lib.hid (bx2_step HBX.out hb); obtain ⟨s0, s1, t0, t1⟩ := HK.out _ HBX.out; clear hb)
   | (go_at_call 28; refine (HT.out _ HBX.out.b2_bel).mono ?_; rintro e w3 ⟨rfl, hb⟩; replace HBX := Lib.hid (bx2_step HBX.out hb); obtain ⟨s0, s1, t0, t1⟩ := HK.out _ HBX.out; clear hb)
   | (go_at_call 29; refine (HD.out _ HBX.out.b2_bel).mono ?_; rintro e w4 ⟨rfl, hb⟩; replace HBX := Lib.hid (bx2_step HBX.out hb); obtain ⟨s0, s1, t0, t1⟩ := HK.out _ HBX.out; clear hb)
   | (go_at_call 30; refine (wnew_any _).mono ?_; rintro e wN ⟨rfl, hN⟩; have HN := Lib.hid hN; have HBB := Lib.hid HBX.out.b2_bel; have hb5 : Below w4.heap.size w4 wN := (by rw [hN]; exact (Below.refl _ w4).alloc (Nat.le_refl _) _); have HBN := Lib.hid (bx2_step HBX.out hb5); obtain ⟨s0, s1, t0, t1⟩ := HK.out _ HBN.out; clear hN hb5))
  have HC := Lib.hid (drewN_under wN 1)
  have HC0 := Lib.hid (Below.refl wN.heap.size wN)
  have hq := lt_of_block HBX.out.b2_two
  have HKT : Hid (∀ u, Touch (fun k => k = w4.heap.size) wN u → u.cell? ⟨w.heap.size, 0, none⟩ = some (.slice A ne ca) ∧ u.cell? ⟨w.heap.size, 1, none⟩ = some (.slice A2 nm ca2) ∧ u.cell? ⟨w.heap.size + 1, 0, none⟩ = some (.slice B na cb) ∧ u.cell? ⟨w.heap.size + 1, 1, none⟩ = some (.slice B2 nr cr)) := Lib.hid (fun u ht => by
   have q1 := (ht.block _ (lt_of_block HBN.out.b2_one) (fun h => by omega)).trans HBN.out.b2_one
   have q2 := (ht.block _ (lt_of_block HBN.out.b2_two) (fun h => by omega)).trans HBN.out.b2_two
   exact ⟨obj_cell q1 0, obj_cell q1 1, obj_cell q2 0, obj_cell q2 1⟩)
  have HQ := Lib.hid hq
  clear hq HK HM HT HD
  go_region_held3 (fun u => u.cell? ⟨w.heap.size, 0, none⟩ = some (.slice A ne ca) ∧ u.cell? ⟨w.heap.size, 1, none⟩ = some (.slice A2 nm ca2) ∧ u.cell? ⟨w.heap.size + 1, 0, none⟩ = some (.slice B na cb) ∧ u.cell? ⟨w.heap.size + 1, 1, none⟩ = some (.slice B2 nr cr))
   (first | exact HKT.out _ (Touch.of_below _ HC.out) | exact HKT.out _ (Touch.of_below _ HC0.out) | exact HKT.out _ HTW.out)
   (first
    | (go_at_call 31; refine (HMS.out _ (vbel HBN.out.b2_bel HC.out)).mono ?_; rintro e w5 ⟨pf, pm, pS, rfl, hb, hmf⟩; have HMF := Lib.hid hmf; have HCX := HC; have HBH := Lib.hid hb; replace HC := Lib.hid (vbel HC.out hb); clear hb hmf)
    | (go_at_call 76; refine (HRN.out _ _ _ _ _ _ _ _ rfl HBB.out HN.out HCX.out HBH.out HMF.out).mono ?_; rintro e w6 ⟨⟨vv, rfl⟩, a2, hwr, hea⟩; have HWR := Lib.hid hwr; have HE := Lib.hid hea; have HTW := Lib.hid ((Touch.of_below (fun k => k = w4.heap.size) HC.out).trans (enAt_touch hea) (fun _ h => .inl h)); clear hwr hea HC HC0))
  all_goals
   have hwl := (wrote_len HWR.out).2
   rw [List.length_nil, Nat.zero_add] at hwl
   have HLG := Lib.hid (HLO.out _ _ _ _ a2 (Nat.le_trans hwl hlenE) HE.out)
   have HBT : Hid (Below w.heap.size w w6) := Lib.hid (HBN.out.b2_bel.trans (HTW.out.below HBN.out.b2_bel.size (fun k hk => by rw [hk]; exact HBB.out.size)))
   have HBY := Lib.hid (fun u (hb : Below w6.heap.size w6 u) => e_bytes (enAt_bel HE.out hb) (Nat.le_trans hwl hlenE))
   have hwe := wrote_end HWR.out
   clear hwl HWR HLO HRN HMS HKT HE HTW s0 s1 t0 t1
   rcases hwe with ⟨q1, q2⟩ | ⟨q1, q2, q3⟩
   ·first
     | exact absurd q2 e4
     | (rw [decide_eq_true q1] at HLG
        clear HBY
        go_wp2_with (go_at_call 32; refine HLG.out.mono ?_; rintro e w7 ⟨rfl, hb⟩; have HBF := Lib.hid (vbel HBT.out hb); clear hb)
        go_ret2
        exact ⟨none, 0, rfl, bs_nil _, HBF.out⟩)
   ·first
     | exact absurd e4 q2
     | (rw [decide_eq_false q1] at HLG
        subst q3
        go_wp2_with (first
         | (go_at_call 32; refine HLG.out.mono ?_; rintro e w7 ⟨rfl, hb⟩; have HB7 := Lib.hid hb; have HBF := Lib.hid (vbel HBT.out hb); clear hb)
         | (go_at_call 33; refine (HBY.out _ HB7.out).mono ?_; rintro e w8 ⟨A9, c9, rfl, hB, hb⟩; have HBS := Lib.hid hB; have HBG := Lib.hid (vbel HBF.out hb); clear hb hB))
        go_ret2
        rw [he]
        exact ⟨_, _, rfl, HBS.out, HBG.out⟩)
theorem enc_ok : EncOk VdEnv where
 erolls := fun h hb => ⟨h.1.rides hb, h.2.goesOn hb⟩
 eenv := fun h => h.2
 eput := by
  intro s n SS S w A A2 ne ca nm ca2 name B B2 na cb nr cr x env hok hc h hx hf ho hd hcost
  exact pput_any hok hc w env name h hx hf ho hd hcost
 epack := by
  intro w f A cap n l env h hn hl hb
  exact ppack_any f w env.1 h hn (by omega) hb
end Go.Proofs.YtloheacncefkgaaGreatDoor
