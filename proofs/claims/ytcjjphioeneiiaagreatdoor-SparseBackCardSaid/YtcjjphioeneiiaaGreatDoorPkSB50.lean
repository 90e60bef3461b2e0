/- Several texts in one: SxQ. What each proves, and its conditions, stands at its own head. -/
import Derived.Test.YtcjjphioeneiiaaGreatDoorPkSB44
import Derived.Test.YtcjjphioeneiiaaGreatDoorPkSB48
import Derived.Test.YtcjjphioeneiiaaGreatDoorPkSB49
import Derived.Test.YtcjjphioeneiiaaGreatDoorPkSB41
import Derived.Test.YtcjjphioeneiiaaGreatDoorPkSB26
import Derived.Test.YtcjjphioeneiiaaGreatDoorPkSB25
/- The program's Check of a schema. Conditions: those that each theorem names. -/
namespace Go.Proofs.YtcjjphioeneiiaaGreatDoor
open Go.RowKit
set_option linter.unusedVariables false
set_option maxRecDepth 100000

theorem bel_go {a b c : World} (h : Below a.heap.size a b) (k : Below b.heap.size b c) : Below a.heap.size a c := h.trans (k.mono h.size)
theorem stell_any (e : Int) (kf : Nat) (w : World) : Calls Tryz.prog 57 #[.int .i64 e, .func (.func kf) #[] #[]] w fun r w' => ∃ p q, r = .returned (.func (.func 114) #[] #[.pointer (some ⟨p, 0, none⟩), .pointer (some ⟨q, 0, none⟩)]) ∧ w'.cell? ⟨p, 0, none⟩ = some (.func (.func kf) #[] #[]) ∧ w'.cell? ⟨q, 0, none⟩ = some (.int .i64 e) ∧ Below w.heap.size w w' := by
 have e1 := heap_alloc_new w (.cells #[.int .i64 e] 27)
 have e2 := heap_alloc_new (w.alloc (.cells #[.int .i64 e] 27)) (.cells #[.func (.func kf) #[] #[]] 35)
 rw [World.size_alloc] at e2
 have E1 := Lib.hid (obj_cell ((heap_alloc_old _ (.cells #[.func (.func kf) #[] #[]] 35) (lt_of_block e1)).trans e1) 0)
 have E2 := Lib.hid (obj_cell e2 0)
 clear e1 e2
 go_enter Tryz.func57, Tryz.ntmps57
 go_wp2
 go_ret
 exact ⟨_, _, rfl, E2.out, E1.out, bel_go (up_box _ _) (up_box _ _)⟩
theorem stell1_any (w : World) {a1 a2 : Value} (p q kf : Nat) (e : Int) (b : Bool) (henter : Enters Tryz.prog kf) (hp : w.cell? ⟨p, 0, none⟩ = some (.func (.func kf) #[] #[])) (hq : w.cell? ⟨q, 0, none⟩ = some (.int .i64 e))
 (hf : ∀ u, Below w.heap.size w u → Calls Tryz.prog kf #[.agg #[a1, a2]] u fun r w' => r = .returned (.bool b) ∧ Below u.heap.size u w') :
 Calls Tryz.prog 114 #[.agg #[a1, a2], .pointer (some ⟨p, 0, none⟩), .pointer (some ⟨q, 0, none⟩)] w fun r w' => r = .returned (.int .i64 (if b = true then e else 0)) ∧ Below w.heap.size w w' := by
 have hent : ∀ (args : Array Value) (w : World), (callFunc kf args).run Tryz.prog w = .ok (.enter kf args) w := henter
 have HBX := Lib.hid (bx_start w #[a1, a2] 26)
 have r0 := obj_cell (HBX.out).b_blk 0
 have r1 := obj_cell (HBX.out).b_blk 1
 have k0 := cell_under HBX.out.b_bel hp
 have HQ := Lib.hid (fun u (hb : Below w.heap.size w u) => cell_under hb hq)
 have HF := Lib.hid hf
 clear hp hq hf henter
 cases b
 all_goals
  go_enter Tryz.func114, Tryz.ntmps114
  go_wp2_with (go_at_fn kf; refine (HF.out _ HBX.out.b_bel).mono ?_; rintro r w2 ⟨rfl, hb⟩; replace HBX := Lib.hid (bx_step HBX.out hb); have k1 := HQ.out _ HBX.out.b_bel; clear hb)
  go_ret
  exact ⟨rfl, HBX.out.b_bel⟩
theorem none_vals {s : Sc} (h : noneT s = false) : 1 ≤ s.msgs.length ∧ ∀ e ∈ s.enums, 1 ≤ e.values.length := by
 unfold noneT at h
 rw [Bool.or_eq_false_iff, decide_eq_false_iff_not, List.any_eq_false] at h
 exact ⟨by omega, fun e he => by have := h.2 e he; unfold noneE at this; simp at this; have : e.values.length ≠ 0 := fun e0 => this (List.eq_nil_of_length_eq_zero e0); omega⟩
/-- The findings that are not so, as far as step k. -/
def passed (s : Sc) (k : Nat) : Prop := (1 ≤ k → manyT s = false) ∧ (2 ≤ k → noneT s = false) ∧ (3 ≤ k → scTextT s = false) ∧ (4 ≤ k → fieldsT s = 0) ∧ (5 ≤ k → twiceT s = false) ∧ (6 ≤ k → orderT s = false) ∧ (7 ≤ k → barredT s = false) ∧ (8 ≤ k → refsT s = false)

set_option maxHeartbeats 32000000 in
theorem scheck_any {S : Nat → Nat → Prop} (w : World) (env : ScEnv w) {A A2 : Option Addr} {n cap n2 cap2 : Nat} {s : Sc} (h : ScAt S w A n cap A2 n2 cap2 s) :
 Calls Tryz.prog 20 #[.agg #[.slice A n cap, .slice A2 n2 cap2]] w fun e w' => e = .returned (.int .i64 (checkT s)) ∧ Below w.heap.size w w' := by
 obtain ⟨m1, m2, m3, m4⟩ := scAt_max h
 have HBX := Lib.hid (bx_start w #[.slice A n cap, .slice A2 n2 cap2] 26)
 have HAT := Lib.hid (fun u (hb : Below w.heap.size w u) => scAt_bel h hb)
 have HEV := Lib.hid (fun u (hb : Below w.heap.size w u) => env.rides hb)
 have HNN : Hid (n = s.enums.length ∧ n2 = s.msgs.length) := Lib.hid ⟨h.s_ne, h.s_nm⟩
 have r0 := obj_cell (HBX.out).b_blk 0
 have r1 := obj_cell (HBX.out).b_blk 1
 clear h env
 go_enter Tryz.func20, Tryz.ntmps20
 go_wp2_with (first
  | (go_at_call 57; (with_reducible refine (stell_any 4 58 _).mono ?_); rintro e w0 ⟨p0, q0, rfl, hp, hq, hb⟩; have HP0 := Lib.hid hp; have HQ0 := Lib.hid hq; have HB0 := Lib.hid hb; clear hp hq hb)
  | (go_at_call 57; (with_reducible refine (stell_any 5 59 _).mono ?_); rintro e w1 ⟨p1, q1, rfl, hp, hq, hb⟩; have HP1 := Lib.hid hp; have HQ1 := Lib.hid hq; have HB1 := Lib.hid hb; clear hp hq hb)
  | (go_at_call 57; (with_reducible refine (stell_any 2 60 _).mono ?_); rintro e w2 ⟨p2, q2, rfl, hp, hq, hb⟩; have HP2 := Lib.hid hp; have HQ2 := Lib.hid hq; have HB2 := Lib.hid hb; clear hp hq hb)
  | (go_at_call 57; (with_reducible refine (stell_any 6 62 _).mono ?_); rintro e w4 ⟨p4, q4, rfl, hp, hq, hb⟩; have HP4 := Lib.hid hp; have HQ4 := Lib.hid hq; have HB4 := Lib.hid hb; clear hp hq hb)
  | (go_at_call 57; (with_reducible refine (stell_any 1 63 _).mono ?_); rintro e w5 ⟨p5, q5, rfl, hp, hq, hb⟩; have HP5 := Lib.hid hp; have HQ5 := Lib.hid hq; have HB5 := Lib.hid hb; clear hp hq hb)
  | (go_at_call 57; (with_reducible refine (stell_any 6 64 _).mono ?_); rintro e w6 ⟨p6, q6, rfl, hp, hq, hb⟩; have HP6 := Lib.hid hp; have HQ6 := Lib.hid hq; have HB6 := Lib.hid hb; clear hp hq hb)
  | (go_at_call 57; (with_reducible refine (stell_any 5 65 _).mono ?_); rintro e w7 ⟨p7, q7, rfl, hp, hq, hb⟩; have HP7 := Lib.hid hp; have HQ7 := Lib.hid hq; have HB7 := Lib.hid hb; clear hp hq hb))
 obtain ⟨wL, hwL⟩ : ∃ wL, wL = w7.alloc (.cells #[.func (.func 114) #[] #[.pointer (some ⟨p0, 0, none⟩), .pointer (some ⟨q0, 0, none⟩)], .func (.func 114) #[] #[.pointer (some ⟨p1, 0, none⟩), .pointer (some ⟨q1, 0, none⟩)], .func (.func 114) #[] #[.pointer (some ⟨p2, 0, none⟩), .pointer (some ⟨q2, 0, none⟩)], .func (.func 61) #[] #[], .func (.func 114) #[] #[.pointer (some ⟨p4, 0, none⟩), .pointer (some ⟨q4, 0, none⟩)], .func (.func 114) #[] #[.pointer (some ⟨p5, 0, none⟩), .pointer (some ⟨q5, 0, none⟩)], .func (.func 114) #[] #[.pointer (some ⟨p6, 0, none⟩), .pointer (some ⟨q6, 0, none⟩)], .func (.func 114) #[] #[.pointer (some ⟨p7, 0, none⟩), .pointer (some ⟨q7, 0, none⟩)]] 53) := ⟨_, rfl⟩
 have hblk := heap_alloc_new w7 (.cells #[.func (.func 114) #[] #[.pointer (some ⟨p0, 0, none⟩), .pointer (some ⟨q0, 0, none⟩)], .func (.func 114) #[] #[.pointer (some ⟨p1, 0, none⟩), .pointer (some ⟨q1, 0, none⟩)], .func (.func 114) #[] #[.pointer (some ⟨p2, 0, none⟩), .pointer (some ⟨q2, 0, none⟩)], .func (.func 61) #[] #[], .func (.func 114) #[] #[.pointer (some ⟨p4, 0, none⟩), .pointer (some ⟨q4, 0, none⟩)], .func (.func 114) #[] #[.pointer (some ⟨p5, 0, none⟩), .pointer (some ⟨q5, 0, none⟩)], .func (.func 114) #[] #[.pointer (some ⟨p6, 0, none⟩), .pointer (some ⟨q6, 0, none⟩)], .func (.func 114) #[] #[.pointer (some ⟨p7, 0, none⟩), .pointer (some ⟨q7, 0, none⟩)]] 53)
 obtain ⟨gA, hgA⟩ : ∃ gA, gA = w7.heap.size := ⟨_, rfl⟩
 have C7 : Below w7.heap.size w7 wL := by rw [hwL]; exact up_box _ _
 rw [← hwL, ← hgA] at hblk
 have C6 : Below w6.heap.size w6 wL := bel_go HB7.out C7
 have C5 : Below w5.heap.size w5 wL := bel_go HB6.out C6
 have C4 : Below w4.heap.size w4 wL := bel_go HB5.out C5
 have C2 : Below w2.heap.size w2 wL := bel_go HB4.out C4
 have C1 : Below w1.heap.size w1 wL := bel_go HB2.out C2
 have C0 : Below w0.heap.size w0 wL := bel_go HB1.out C1
 have HBL : Hid (Bx w wL (.cells #[.slice A n cap, .slice A2 n2 cap2] 26 (0, 0))) := Lib.hid (bx_step (bx_step HBX.out HB0.out) C0)
 replace HP0 := Lib.hid (cell_under C0 HP0.out)
 replace HQ0 := Lib.hid (cell_under C0 HQ0.out)
 replace HP1 := Lib.hid (cell_under C1 HP1.out)
 replace HQ1 := Lib.hid (cell_under C1 HQ1.out)
 replace HP2 := Lib.hid (cell_under C2 HP2.out)
 replace HQ2 := Lib.hid (cell_under C2 HQ2.out)
 replace HP4 := Lib.hid (cell_under C4 HP4.out)
 replace HQ4 := Lib.hid (cell_under C4 HQ4.out)
 replace HP5 := Lib.hid (cell_under C5 HP5.out)
 replace HQ5 := Lib.hid (cell_under C5 HQ5.out)
 replace HP6 := Lib.hid (cell_under C6 HP6.out)
 replace HQ6 := Lib.hid (cell_under C6 HQ6.out)
 replace HP7 := Lib.hid (cell_under C7 HP7.out)
 replace HQ7 := Lib.hid (cell_under C7 HQ7.out)
 have HBLK := Lib.hid hblk
 have HWL := Lib.hid hwL
 clear C0 C1 C2 C4 C5 C6 C7 hblk
 rw [← hwL, ← hgA]
 clear hwL HWL hgA HBX HB0 HB1 HB2 HB4 HB5 HB6 HB7 r0 r1
 go_loopw [15] (fun x wr => ∃ k : Nat, x = .int .i64 (k : Int) ∧ k ≤ 8 ∧ passed s k ∧ Below wL.heap.size wL wr) (fun x _ => 8 - (intOf x).toNat)
 case atStart => exact ⟨0, rfl, by omega, ⟨by omega, by omega, by omega, by omega, by omega, by omega, by omega, by omega⟩, Below.refl _ _⟩
 case round =>
  obtain ⟨k, rfl, hk, hpass, hbel⟩ := hrel
  have HPA := Lib.hid hpass
  have HB := Lib.hid hbel
  have HBX := Lib.hid (bx_step HBL.out hbel)
  have hblk := (hbel.block _ (lt_of_block HBLK.out)).trans HBLK.out
  have r0 := obj_cell (HBX.out).b_blk 0
  have r1 := obj_cell (HBX.out).b_blk 1
  match k, hk, HPA with
  | 0, _, HPA =>
    have ri := obj_cell hblk 0
    clear hblk hbel hpass
    obtain ⟨b, hb⟩ : ∃ b, b = manyT s := ⟨_, rfl⟩
    have HCK := Lib.hid (stell1_any wr p0 q0 58 4 b (fun _ _ => rfl) (cell_under HB.out HP0.out) (cell_under HB.out HQ0.out) (fun u hbu => by rw [hb]; exact (fun (hb : Below w.heap.size w u) => scrowded_any u (HAT.out u hb)) (HBX.out.b_bel.trans (hbu.mono HBX.out.b_bel.size))))
    have HBB := Lib.hid hb
    clear hb
    cases b with
    | true =>
      rw [if_pos rfl] at HCK
      go_wp2_with (go_at_call 114; refine HCK.out.mono ?_; rintro e wx ⟨rfl, hb⟩; have HBE := Lib.hid (bx_step HBX.out hb).b_bel; clear hb)
      go_ret
      exact ⟨ret_int' (by unfold checkT; rw [if_pos HBB.out.symm]), HBE.out⟩
    | false =>
      rw [if_neg (by decide)] at HCK
      go_wp2_with (go_at_call 114; refine HCK.out.mono ?_; rintro e wx ⟨rfl, hb⟩; have HBE := Lib.hid (bel_go HB.out hb); clear hb)
      go_roundw
      case rel => exact ⟨1, rfl, by omega, ⟨fun _ => HBB.out.symm, by omega, by omega, by omega, by omega, by omega, by omega, by omega⟩, HBE.out⟩
      case measure => simp [intOf]
  | 1, _, HPA =>
    have ri := obj_cell hblk 1
    clear hblk hbel hpass
    obtain ⟨b, hb⟩ : ∃ b, b = noneT s := ⟨_, rfl⟩
    have HCK := Lib.hid (stell1_any wr p1 q1 59 5 b (fun _ _ => rfl) (cell_under HB.out HP1.out) (cell_under HB.out HQ1.out) (fun u hbu => by rw [hb]; exact (fun (hb : Below w.heap.size w u) => sempty_any u (HAT.out u hb)) (HBX.out.b_bel.trans (hbu.mono HBX.out.b_bel.size))))
    have HBB := Lib.hid hb
    clear hb
    cases b with
    | true =>
      rw [if_pos rfl] at HCK
      go_wp2_with (go_at_call 114; refine HCK.out.mono ?_; rintro e wx ⟨rfl, hb⟩; have HBE := Lib.hid (bx_step HBX.out hb).b_bel; clear hb)
      go_ret
      exact ⟨ret_int' (by have e0 := HPA.out.1 (by decide); unfold checkT; rw [if_neg (by rw [e0]; simp)]; rw [if_pos HBB.out.symm]), HBE.out⟩
    | false =>
      rw [if_neg (by decide)] at HCK
      go_wp2_with (go_at_call 114; refine HCK.out.mono ?_; rintro e wx ⟨rfl, hb⟩; have HBE := Lib.hid (bel_go HB.out hb); clear hb)
      go_roundw
      case rel => exact ⟨2, rfl, by omega, ⟨fun _ => HPA.out.1 (by decide), fun _ => HBB.out.symm, by omega, by omega, by omega, by omega, by omega, by omega⟩, HBE.out⟩
      case measure => simp [intOf]
  | 2, _, HPA =>
    have ri := obj_cell hblk 2
    clear hblk hbel hpass
    have few := few_of (HPA.out.1 (by decide))
    obtain ⟨b, hb⟩ : ∃ b, b = scTextT s := ⟨_, rfl⟩
    have HCK := Lib.hid (stell1_any wr p2 q2 60 2 b (fun _ _ => rfl) (cell_under HB.out HP2.out) (cell_under HB.out HQ2.out) (fun u hbu => by rw [hb]; exact (fun (hb : Below w.heap.size w u) => sunnamed_any u (HAT.out u hb) few) (HBX.out.b_bel.trans (hbu.mono HBX.out.b_bel.size))))
    have HBB := Lib.hid hb
    clear hb few
    cases b with
    | true =>
      rw [if_pos rfl] at HCK
      go_wp2_with (go_at_call 114; refine HCK.out.mono ?_; rintro e wx ⟨rfl, hb⟩; have HBE := Lib.hid (bx_step HBX.out hb).b_bel; clear hb)
      go_ret
      exact ⟨ret_int' (by have e0 := HPA.out.1 (by decide); have e1 := HPA.out.2.1 (by decide); unfold checkT; rw [if_neg (by rw [e0]; simp)]; rw [if_neg (by rw [e1]; simp)]; rw [if_pos HBB.out.symm]), HBE.out⟩
    | false =>
      rw [if_neg (by decide)] at HCK
      go_wp2_with (go_at_call 114; refine HCK.out.mono ?_; rintro e wx ⟨rfl, hb⟩; have HBE := Lib.hid (bel_go HB.out hb); clear hb)
      go_roundw
      case rel => exact ⟨3, rfl, by omega, ⟨fun _ => HPA.out.1 (by decide), fun _ => HPA.out.2.1 (by decide), fun _ => HBB.out.symm, by omega, by omega, by omega, by omega, by omega⟩, HBE.out⟩
      case measure => simp [intOf]
  | 3, _, HPA =>
    have ri := obj_cell hblk 3
    clear hblk hbel hpass
    obtain ⟨C, hC⟩ : ∃ C, C = fieldsT s := ⟨_, rfl⟩
    have HCK := Lib.hid (srefused_any wr (HEV.out _ HBX.out.b_bel) (HAT.out _ HBX.out.b_bel))
    rw [← hC] at HCK
    have HBB := Lib.hid hC
    clear hC
    by_cases h0 : C = 0
    ·subst h0
     go_wp2_with (go_at_call 61; refine HCK.out.mono ?_; rintro e wx ⟨rfl, hb⟩; have HBE := Lib.hid (bel_go HB.out hb); clear hb)
     go_roundw
     case rel => exact ⟨4, rfl, by omega, ⟨fun _ => HPA.out.1 (by decide), fun _ => HPA.out.2.1 (by decide), fun _ => HPA.out.2.2.1 (by decide), fun _ => HBB.out.symm, by omega, by omega, by omega, by omega⟩, HBE.out⟩
     case measure => simp [intOf]
    ·have e1 : (C == 0) = false := beq_false_of_ne h0
     have e2 : (C != 0) = true := by simp [h0]
     have H0 := Lib.hid h0
     go_wp2_with (go_at_call 61; refine HCK.out.mono ?_; rintro e wx ⟨rfl, hb⟩; have HBE := Lib.hid (bx_step HBX.out hb).b_bel; clear hb)
     go_ret
     exact ⟨ret_int' (by have e0 := HPA.out.1 (by decide); have e1 := HPA.out.2.1 (by decide); have e2 := HPA.out.2.2.1 (by decide); unfold checkT; rw [if_neg (by rw [e0]; simp)]; rw [if_neg (by rw [e1]; simp)]; rw [if_neg (by rw [e2]; simp)]; rw [if_pos (by rw [← HBB.out]; exact H0.out), HBB.out]), HBE.out⟩
  | 4, _, HPA =>
    have ri := obj_cell hblk 4
    clear hblk hbel hpass
    have few := few_of (HPA.out.1 (by decide))
    obtain ⟨b, hb⟩ : ∃ b, b = twiceT s := ⟨_, rfl⟩
    have HCK := Lib.hid (stell1_any wr p4 q4 62 6 b (fun _ _ => rfl) (cell_under HB.out HP4.out) (cell_under HB.out HQ4.out) (fun u hbu => by rw [hb]; exact (fun (hb : Below w.heap.size w u) => stwice_any u (HAT.out u hb) few (HPA.out.2.2.2.1 (by decide))) (HBX.out.b_bel.trans (hbu.mono HBX.out.b_bel.size))))
    have HBB := Lib.hid hb
    clear hb few
    cases b with
    | true =>
      rw [if_pos rfl] at HCK
      go_wp2_with (go_at_call 114; refine HCK.out.mono ?_; rintro e wx ⟨rfl, hb⟩; have HBE := Lib.hid (bx_step HBX.out hb).b_bel; clear hb)
      go_ret
      exact ⟨ret_int' (by have e0 := HPA.out.1 (by decide); have e1 := HPA.out.2.1 (by decide); have e2 := HPA.out.2.2.1 (by decide); have e3 := HPA.out.2.2.2.1 (by decide); unfold checkT; rw [if_neg (by rw [e0]; simp)]; rw [if_neg (by rw [e1]; simp)]; rw [if_neg (by rw [e2]; simp)]; rw [if_neg (by simp [e3])]; rw [if_pos HBB.out.symm]), HBE.out⟩
    | false =>
      rw [if_neg (by decide)] at HCK
      go_wp2_with (go_at_call 114; refine HCK.out.mono ?_; rintro e wx ⟨rfl, hb⟩; have HBE := Lib.hid (bel_go HB.out hb); clear hb)
      go_roundw
      case rel => exact ⟨5, rfl, by omega, ⟨fun _ => HPA.out.1 (by decide), fun _ => HPA.out.2.1 (by decide), fun _ => HPA.out.2.2.1 (by decide), fun _ => HPA.out.2.2.2.1 (by decide), fun _ => HBB.out.symm, by omega, by omega, by omega⟩, HBE.out⟩
      case measure => simp [intOf]
  | 5, _, HPA =>
    have ri := obj_cell hblk 5
    clear hblk hbel hpass
    have few := few_of (HPA.out.1 (by decide))
    obtain ⟨v1, v2⟩ := none_vals (HPA.out.2.1 (by decide))
    obtain ⟨b, hb⟩ : ∃ b, b = orderT s := ⟨_, rfl⟩
    have HCK := Lib.hid (stell1_any wr p5 q5 63 1 b (fun _ _ => rfl) (cell_under HB.out HP5.out) (cell_under HB.out HQ5.out) (fun u hbu => by rw [hb]; exact (fun (hb : Below w.heap.size w u) => sunordered_any u (HAT.out u hb) (by have := HNN.out; have := few.few_e; omega) (by have := HNN.out; have := few.few_m; omega) (by have := HNN.out; omega) (fun e he => ⟨v2 e he, by have := few.few_v e he; omega⟩) (fun m hm => by have := (few.few_f m hm).1; omega)) (HBX.out.b_bel.trans (hbu.mono HBX.out.b_bel.size))))
    have HBB := Lib.hid hb
    clear hb few
    cases b with
    | true =>
      rw [if_pos rfl] at HCK
      go_wp2_with (go_at_call 114; refine HCK.out.mono ?_; rintro e wx ⟨rfl, hb⟩; have HBE := Lib.hid (bx_step HBX.out hb).b_bel; clear hb)
      go_ret
      exact ⟨ret_int' (by have e0 := HPA.out.1 (by decide); have e1 := HPA.out.2.1 (by decide); have e2 := HPA.out.2.2.1 (by decide); have e3 := HPA.out.2.2.2.1 (by decide); have e4 := HPA.out.2.2.2.2.1 (by decide); unfold checkT; rw [if_neg (by rw [e0]; simp)]; rw [if_neg (by rw [e1]; simp)]; rw [if_neg (by rw [e2]; simp)]; rw [if_neg (by simp [e3])]; rw [if_neg (by rw [e4]; simp)]; rw [if_pos HBB.out.symm]), HBE.out⟩
    | false =>
      rw [if_neg (by decide)] at HCK
      go_wp2_with (go_at_call 114; refine HCK.out.mono ?_; rintro e wx ⟨rfl, hb⟩; have HBE := Lib.hid (bel_go HB.out hb); clear hb)
      go_roundw
      case rel => exact ⟨6, rfl, by omega, ⟨fun _ => HPA.out.1 (by decide), fun _ => HPA.out.2.1 (by decide), fun _ => HPA.out.2.2.1 (by decide), fun _ => HPA.out.2.2.2.1 (by decide), fun _ => HPA.out.2.2.2.2.1 (by decide), fun _ => HBB.out.symm, by omega, by omega⟩, HBE.out⟩
      case measure => simp [intOf]
  | 6, _, HPA =>
    have ri := obj_cell hblk 6
    clear hblk hbel hpass
    obtain ⟨b, hb⟩ : ∃ b, b = barredT s := ⟨_, rfl⟩
    have HCK := Lib.hid (stell1_any wr p6 q6 64 6 b (fun _ _ => rfl) (cell_under HB.out HP6.out) (cell_under HB.out HQ6.out) (fun u hbu => by rw [hb]; exact (fun (hb : Below w.heap.size w u) => sbarred_any u (HAT.out u hb)) (HBX.out.b_bel.trans (hbu.mono HBX.out.b_bel.size))))
    have HBB := Lib.hid hb
    clear hb
    cases b with
    | true =>
      rw [if_pos rfl] at HCK
      go_wp2_with (go_at_call 114; refine HCK.out.mono ?_; rintro e wx ⟨rfl, hb⟩; have HBE := Lib.hid (bx_step HBX.out hb).b_bel; clear hb)
      go_ret
      exact ⟨ret_int' (by have e0 := HPA.out.1 (by decide); have e1 := HPA.out.2.1 (by decide); have e2 := HPA.out.2.2.1 (by decide); have e3 := HPA.out.2.2.2.1 (by decide); have e4 := HPA.out.2.2.2.2.1 (by decide); have e5 := HPA.out.2.2.2.2.2.1 (by decide); unfold checkT; rw [if_neg (by rw [e0]; simp)]; rw [if_neg (by rw [e1]; simp)]; rw [if_neg (by rw [e2]; simp)]; rw [if_neg (by simp [e3])]; rw [if_neg (by rw [e4]; simp)]; rw [if_neg (by rw [e5]; simp)]; rw [if_pos HBB.out.symm]), HBE.out⟩
    | false =>
      rw [if_neg (by decide)] at HCK
      go_wp2_with (go_at_call 114; refine HCK.out.mono ?_; rintro e wx ⟨rfl, hb⟩; have HBE := Lib.hid (bel_go HB.out hb); clear hb)
      go_roundw
      case rel => exact ⟨7, rfl, by omega, ⟨fun _ => HPA.out.1 (by decide), fun _ => HPA.out.2.1 (by decide), fun _ => HPA.out.2.2.1 (by decide), fun _ => HPA.out.2.2.2.1 (by decide), fun _ => HPA.out.2.2.2.2.1 (by decide), fun _ => HPA.out.2.2.2.2.2.1 (by decide), fun _ => HBB.out.symm, by omega⟩, HBE.out⟩
      case measure => simp [intOf]
  | 7, _, HPA =>
    have ri := obj_cell hblk 7
    clear hblk hbel hpass
    have few := few_of (HPA.out.1 (by decide))
    obtain ⟨b, hb⟩ : ∃ b, b = refsT s := ⟨_, rfl⟩
    have HCK := Lib.hid (stell1_any wr p7 q7 65 5 b (fun _ _ => rfl) (cell_under HB.out HP7.out) (cell_under HB.out HQ7.out) (fun u hbu => by rw [hb]; exact (fun (hb : Below w.heap.size w u) => slost_any u (HAT.out u hb) few) (HBX.out.b_bel.trans (hbu.mono HBX.out.b_bel.size))))
    have HBB := Lib.hid hb
    clear hb few
    cases b with
    | true =>
      rw [if_pos rfl] at HCK
      go_wp2_with (go_at_call 114; refine HCK.out.mono ?_; rintro e wx ⟨rfl, hb⟩; have HBE := Lib.hid (bx_step HBX.out hb).b_bel; clear hb)
      go_ret
      exact ⟨ret_int' (by have e0 := HPA.out.1 (by decide); have e1 := HPA.out.2.1 (by decide); have e2 := HPA.out.2.2.1 (by decide); have e3 := HPA.out.2.2.2.1 (by decide); have e4 := HPA.out.2.2.2.2.1 (by decide); have e5 := HPA.out.2.2.2.2.2.1 (by decide); have e6 := HPA.out.2.2.2.2.2.2.1 (by decide); unfold checkT; rw [if_neg (by rw [e0]; simp)]; rw [if_neg (by rw [e1]; simp)]; rw [if_neg (by rw [e2]; simp)]; rw [if_neg (by simp [e3])]; rw [if_neg (by rw [e4]; simp)]; rw [if_neg (by rw [e5]; simp)]; rw [if_neg (by rw [e6]; simp)]; rw [if_pos HBB.out.symm]), HBE.out⟩
    | false =>
      rw [if_neg (by decide)] at HCK
      go_wp2_with (go_at_call 114; refine HCK.out.mono ?_; rintro e wx ⟨rfl, hb⟩; have HBE := Lib.hid (bel_go HB.out hb); clear hb)
      go_roundw
      case rel => exact ⟨8, rfl, by omega, ⟨fun _ => HPA.out.1 (by decide), fun _ => HPA.out.2.1 (by decide), fun _ => HPA.out.2.2.1 (by decide), fun _ => HPA.out.2.2.2.1 (by decide), fun _ => HPA.out.2.2.2.2.1 (by decide), fun _ => HPA.out.2.2.2.2.2.1 (by decide), fun _ => HPA.out.2.2.2.2.2.2.1 (by decide), fun _ => HBB.out.symm⟩, HBE.out⟩
      case measure => simp [intOf]
  | 8, _, HPA =>
    clear hblk hbel hpass
    go_wp2
    go_ret
    exact ⟨ret_int' (by have e0 := HPA.out.1 (by decide); have e1 := HPA.out.2.1 (by decide); have e2 := HPA.out.2.2.1 (by decide); have e3 := HPA.out.2.2.2.1 (by decide); have e4 := HPA.out.2.2.2.2.1 (by decide); have e5 := HPA.out.2.2.2.2.2.1 (by decide); have e6 := HPA.out.2.2.2.2.2.2.1 (by decide); have e7 := HPA.out.2.2.2.2.2.2.2 (by decide); unfold checkT; rw [if_neg (by rw [e0]; simp)]; rw [if_neg (by rw [e1]; simp)]; rw [if_neg (by rw [e2]; simp)]; rw [if_neg (by simp [e3])]; rw [if_neg (by rw [e4]; simp)]; rw [if_neg (by rw [e5]; simp)]; rw [if_neg (by rw [e6]; simp)]; rw [if_neg (by rw [e7]; simp)]; (try rfl)), HBX.out.b_bel⟩
end Go.Proofs.YtcjjphioeneiiaaGreatDoor
