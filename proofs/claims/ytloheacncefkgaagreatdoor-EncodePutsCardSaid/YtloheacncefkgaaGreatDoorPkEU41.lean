/- Several texts in one: RdV, RdS. What each proves, and its conditions, stands at its own head. -/
import Derived.Test.YtloheacncefkgaaGreatDoorPkEU40
import Derived.Test.YtloheacncefkgaaGreatDoorPkEU29
import Derived.Test.YtloheacncefkgaaGreatDoorPkEU17
import Derived.Test.YtloheacncefkgaaGreatDoorPkEU20
import Derived.Test.YtloheacncefkgaaGreatDoorPkEU32
import Derived.Deep.RegionHeld3
import Derived.Test.YtloheacncefkgaaGreatDoorPkEU28
import Derived.Test.YtloheacncefkgaaGreatDoorPkEU22
/- The document's layer 20: which values are a field's, the trees within being asked. Conditions: those that each theorem names. -/
namespace Go.Proofs.YtloheacncefkgaaGreatDoor
open Go.RowKit
set_option linter.unusedVariables false
set_option maxRecDepth 100000

theorem calls_same {f : FuncId} {args : Array Value} {u : World} {x : Ending} (h : Calls Tryz.prog f args u fun e w' => e = x ∧ u = w') : Calls Tryz.prog f args u fun e w' => e = x ∧ Below u.heap.size u w' :=
 h.mono fun e w' ⟨he, hw⟩ => ⟨he, by rw [← hw]; exact Below.refl _ _⟩
def RTree (s : Sc) (n : Nat) : Prop := ∀ (SS : Nat → Nat → Prop) (S : Nat → Prop) (w : World) (A : Option Addr) (ne ca : Nat) (A2 : Option Addr) (nm ca2 : Nat) (name : List UInt8) (B : Option Addr) (na cb : Nat) (B2 : Option Addr) (nr cr : Nat) (x : Tr),
 U8Env w → ScAt SS w A ne ca A2 nm ca2 s → TrAt S n w B na cb B2 nr cr x → FitN (n + 1) x → OkN (n + 1) x →
 Calls Tryz.prog 35 #[.agg #[.slice A ne ca, .slice A2 nm ca2], .string (strOf name), .agg #[.slice B na cb, .slice B2 nr cr]] w fun e w' => e = .returned (.bool (treeN s (n + 1) name x)) ∧ Below w.heap.size w w'
set_option maxHeartbeats 16000000 in
theorem rvval_any {s : Sc} {n : Nat} {SS : Nat → Nat → Prop} {S : Nat → Prop} (H : ∀ k, n = k + 1 → RTree s k) (w : World) (env : U8Env w) {A A2 : Option Addr} {ne ca nm ca2 : Nat} (h : ScAt SS w A ne ca A2 nm ca2 s) (f : Fd) (x : Va) {A1 : Option Addr} {c1 : Nat} (hk : KsAt S n w A1 c1 x.vm)
 (hf : x.vs.length ≤ 100000 ∧ x.vm.length ≤ 1000 ∧ ∀ u ∈ x.vm, FitN n u) (ho : x.vn < 18446744073709551616 ∧ ∀ u ∈ x.vm, OkN n u) :
 Calls Tryz.prog 122 #[.agg #[.slice A ne ca, .slice A2 nm ca2], fdV f, .agg #[.int .u64 (x.vn : Int), .string (strOf x.vs), .slice A1 x.vm.length c1]] w fun e w' => e = .returned (.bool (valT (treeN s n) f x)) ∧ Below w.heap.size w w' := by
 have q1 := hk.l_le
 have q2 := hk.l_max
 unfold maxLen at q2
 have HN := Lib.hid (fun u (hb : Below w.heap.size w u) => calls_same (rsnumber_any f.ty u))
 have HMAY := Lib.hid (fun u (hb : Below w.heap.size w u) => calls_same (rsmay_any f.ty x.vn u ho.1))
 have HVS := Lib.hid (fun u (hb : Below w.heap.size w u) => pvalid_any x.vs (by omega) u (env.goesOn hb))
 have HTR := Lib.hid (fun k (hk : n = k + 1) u (hb : Below w.heap.size w u) name B na cb B2 nr cr t (ht : TrAt S k u B na cb B2 nr cr t) (h1 : FitN (k + 1) t) (h2 : OkN (k + 1) t) => H k hk SS S u A ne ca A2 nm ca2 name B na cb B2 nr cr t (env.goesOn hb) (scAt_bel h hb) ht h1 h2)
 have HKS := Lib.hid hk
 have HFI := Lib.hid hf
 have HOI := Lib.hid ho
 have hso := txt_ways x.vs
 have hvn := num_ways x.vn
 have hL0 := num_ways x.vm.length
 have hL1 := one_ways x.vm.length
 have HO : Hid (valT (treeN s n) f x = valT (treeN s n) f x) := Lib.hid rfl
 have W1 := Lib.hid (fun h => val_num (V := treeN s n) (f := f) (v := x) h)
 have W2 := Lib.hid (fun h => val_12 (V := treeN s n) (f := f) (v := x) h)
 have W3 := Lib.hid (fun h => val_13 (V := treeN s n) (f := f) (v := x) h)
 have W4 := Lib.hid (fun h => val_15 (V := treeN s n) (f := f) (v := x) h)
 have W5 := Lib.hid (fun h => val_no (V := treeN s n) (f := f) (v := x) h)
 obtain ⟨may, hmay⟩ : ∃ b, b = mayT f.ty x.vn := ⟨_, rfl⟩
 obtain ⟨vd, hvd⟩ : ∃ b, b = Lib.validD x.vs := ⟨_, rfl⟩
 obtain ⟨nb, hnb⟩ : ∃ b, b = numberT f.ty := ⟨_, rfl⟩
 rw [← hmay] at HMAY W1
 rw [← hvd] at HVS W2
 rw [← hnb] at HN W1 W5
 obtain ⟨ANS, hans⟩ : ∃ b, b = valT (treeN s n) f x := ⟨_, rfl⟩
 rw [← hans] at W1 W2 W3 W4 W5 ⊢
 clear env h hk hf ho HO hmay hvd hans
 unfold fdV
 obtain ⟨ty, hty⟩ : ∃ z, z = f.ty := ⟨_, rfl⟩
 obtain ⟨fr, hfr⟩ : ∃ z, z = f.ref := ⟨_, rfl⟩
 obtain ⟨ln, hln⟩ : ∃ z, z = x.vm.length := ⟨_, rfl⟩
 have HLN := Lib.hid hln
 have HFR := Lib.hid hfr
 rw [← hty] at HN HMAY W2 W3 W4 W5 hnb ⊢
 rw [← hfr] at W4 ⊢
 rw [← hln] at q1 hL0 hL1 W1 W2 W3 ⊢
 obtain ⟨ov, hov⟩ : ∃ b, b = decide (x.vn = 0) := ⟨_, rfl⟩
 obtain ⟨os, hos⟩ : ∃ b, b = decide (x.vs = []) := ⟨_, rfl⟩
 obtain ⟨ol, hol⟩ : ∃ b, b = decide (ln = 0) := ⟨_, rfl⟩
 rw [← hov] at hvn W2 W3 W4
 rw [← hos] at hso W1 W4
 rw [← hol] at hL0 W1 W2 W3
 clear hty hfr hln hov hos hol
 have hsz : (strOf fr).size = (strOf fr).size := rfl
 generalize hvv : x.vs = vs0 at *
 generalize x.vn = vn at *
 generalize strOf vs0 = so at *
 have HBX := Lib.hid (bx3_start w #[.slice A ne ca, .slice A2 nm ca2] #[.string (strOf f.name), .int .i64 f.num, .int .i64 ty, .string (strOf fr), .bool f.rep, .bool f.loose, .string (strOf f.one)] #[.int .u64 (vn : Int), .string so, .slice A1 ln c1] 25 44 64)
 generalize strOf f.name = s0 at *
 generalize hsr : strOf fr = s3 at *
 generalize strOf f.one = s6 at *
 generalize f.num = z1 at *
 generalize f.rep = b4 at *
 generalize f.loose = b5 at *
 have HSR := Lib.hid hsr
 have HK : Hid (∀ u, Bx3 w u (.cells #[.slice A ne ca, .slice A2 nm ca2] 25 (0, 0)) (.cells #[.string s0, .int .i64 z1, .int .i64 ty, .string s3, .bool b4, .bool b5, .string s6] 44 (0, 0)) (.cells #[.int .u64 (vn : Int), .string so, .slice A1 ln c1] 64 (0, 0)) → u.cell? ⟨w.heap.size, 0, none⟩ = some (.slice A ne ca) ∧ u.cell? ⟨w.heap.size, 1, none⟩ = some (.slice A2 nm ca2) ∧ u.cell? ⟨w.heap.size + 1, 2, none⟩ = some (.int .i64 ty) ∧ u.cell? ⟨w.heap.size + 1, 3, none⟩ = some (.string s3) ∧ u.cell? ⟨w.heap.size + 1 + 1, 0, none⟩ = some (.int .u64 (vn : Int)) ∧ u.cell? ⟨w.heap.size + 1 + 1, 1, none⟩ = some (.string so) ∧ u.cell? ⟨w.heap.size + 1 + 1, 2, none⟩ = some (.slice A1 ln c1)) := Lib.hid (fun u hu => ⟨obj_cell hu.b3_one 0, obj_cell hu.b3_one 1, obj_cell hu.b3_two 2, obj_cell hu.b3_two 3, obj_cell hu.b3_thr 0, obj_cell hu.b3_thr 1, obj_cell hu.b3_thr 2⟩)
 obtain ⟨r0, r1, r2, r3, r4, r5, r6⟩ := HK.out _ HBX.out
 clear hsr hsz hvv
 cases nb with
 | true =>
   have HANS := Lib.hid (W1.out rfl)
   clear W1 W2 W3 W4 W5 hvn hL1 HVS hnb
   cases may with
   | false =>
     clear hso hL0
     go_enter Tryz.func122, Tryz.ntmps122
     go_wp2_with (first
      | (go_at_call 40; refine (HN.out _ HBX.out.b3_bel).mono ?_; rintro e w1 ⟨rfl, hb⟩; replace HBX := Lib.hid (bx3_step HBX.out hb); obtain ⟨r0, r1, r2, r3, r4, r5, r6⟩ := HK.out _ HBX.out; clear hb)
      | (go_at_call 146; refine (HMAY.out _ HBX.out.b3_bel).mono ?_; rintro e w2 ⟨rfl, hb⟩; replace HBX := Lib.hid (bx3_step HBX.out hb); obtain ⟨r0, r1, r2, r3, r4, r5, r6⟩ := HK.out _ HBX.out; clear hb)
      | (go_at_call 134; refine (HVS.out _ HBX.out.b3_bel).mono ?_; rintro e w3 ⟨rfl, hb⟩; replace HBX := Lib.hid (bx3_step HBX.out hb); obtain ⟨r0, r1, r2, r3, r4, r5, r6⟩ := HK.out _ HBX.out; clear hb))
     go_ret
     refine ⟨?_, HBX.out.b3_bel⟩
     rw [HANS.out]
     first | rfl | (cases may <;> rfl) | (cases vd <;> rfl)
   | true =>
     rcases hso with ⟨rfl, s1, s2⟩ | ⟨rfl, s1, s2⟩
     ·rcases hL0 with ⟨rfl, rfl, g2⟩ | ⟨rfl, g1, g2⟩
      ·clear g2
       go_enter Tryz.func122, Tryz.ntmps122
       go_wp2_with (first
        | (go_at_call 40; refine (HN.out _ HBX.out.b3_bel).mono ?_; rintro e w1 ⟨rfl, hb⟩; replace HBX := Lib.hid (bx3_step HBX.out hb); obtain ⟨r0, r1, r2, r3, r4, r5, r6⟩ := HK.out _ HBX.out; clear hb)
        | (go_at_call 146; refine (HMAY.out _ HBX.out.b3_bel).mono ?_; rintro e w2 ⟨rfl, hb⟩; replace HBX := Lib.hid (bx3_step HBX.out hb); obtain ⟨r0, r1, r2, r3, r4, r5, r6⟩ := HK.out _ HBX.out; clear hb)
        | (go_at_call 134; refine (HVS.out _ HBX.out.b3_bel).mono ?_; rintro e w3 ⟨rfl, hb⟩; replace HBX := Lib.hid (bx3_step HBX.out hb); obtain ⟨r0, r1, r2, r3, r4, r5, r6⟩ := HK.out _ HBX.out; clear hb))
       go_ret
       refine ⟨?_, HBX.out.b3_bel⟩
       rw [HANS.out]
       first | rfl | (cases may <;> rfl) | (cases vd <;> rfl)
      ·skip
       go_enter Tryz.func122, Tryz.ntmps122
       go_wp2_with (first
        | (go_at_call 40; refine (HN.out _ HBX.out.b3_bel).mono ?_; rintro e w1 ⟨rfl, hb⟩; replace HBX := Lib.hid (bx3_step HBX.out hb); obtain ⟨r0, r1, r2, r3, r4, r5, r6⟩ := HK.out _ HBX.out; clear hb)
        | (go_at_call 146; refine (HMAY.out _ HBX.out.b3_bel).mono ?_; rintro e w2 ⟨rfl, hb⟩; replace HBX := Lib.hid (bx3_step HBX.out hb); obtain ⟨r0, r1, r2, r3, r4, r5, r6⟩ := HK.out _ HBX.out; clear hb)
        | (go_at_call 134; refine (HVS.out _ HBX.out.b3_bel).mono ?_; rintro e w3 ⟨rfl, hb⟩; replace HBX := Lib.hid (bx3_step HBX.out hb); obtain ⟨r0, r1, r2, r3, r4, r5, r6⟩ := HK.out _ HBX.out; clear hb))
       go_ret
       refine ⟨?_, HBX.out.b3_bel⟩
       rw [HANS.out]
       first | rfl | (cases may <;> rfl) | (cases vd <;> rfl)
     ·clear hL0
      go_enter Tryz.func122, Tryz.ntmps122
      go_wp2_with (first
       | (go_at_call 40; refine (HN.out _ HBX.out.b3_bel).mono ?_; rintro e w1 ⟨rfl, hb⟩; replace HBX := Lib.hid (bx3_step HBX.out hb); obtain ⟨r0, r1, r2, r3, r4, r5, r6⟩ := HK.out _ HBX.out; clear hb)
       | (go_at_call 146; refine (HMAY.out _ HBX.out.b3_bel).mono ?_; rintro e w2 ⟨rfl, hb⟩; replace HBX := Lib.hid (bx3_step HBX.out hb); obtain ⟨r0, r1, r2, r3, r4, r5, r6⟩ := HK.out _ HBX.out; clear hb)
       | (go_at_call 134; refine (HVS.out _ HBX.out.b3_bel).mono ?_; rintro e w3 ⟨rfl, hb⟩; replace HBX := Lib.hid (bx3_step HBX.out hb); obtain ⟨r0, r1, r2, r3, r4, r5, r6⟩ := HK.out _ HBX.out; clear hb))
      go_ret
      refine ⟨?_, HBX.out.b3_bel⟩
      rw [HANS.out]
      first | rfl | (cases may <;> rfl) | (cases vd <;> rfl)
 | false =>
   clear W1 HMAY
   by_cases h12 : ty = 12
   ·subst h12
    have HANS := Lib.hid (W2.out rfl)
    clear W2 W3 W4 W5 hso hL1 hnb
    rcases hvn with ⟨rfl, rfl, g1⟩ | ⟨rfl, g0, g1⟩
    ·clear g1
     rcases hL0 with ⟨rfl, rfl, g2⟩ | ⟨rfl, g1, g2⟩
     ·clear g2
      go_enter Tryz.func122, Tryz.ntmps122
      go_wp2_with (first
       | (go_at_call 40; refine (HN.out _ HBX.out.b3_bel).mono ?_; rintro e w1 ⟨rfl, hb⟩; replace HBX := Lib.hid (bx3_step HBX.out hb); obtain ⟨r0, r1, r2, r3, r4, r5, r6⟩ := HK.out _ HBX.out; clear hb)
       | (go_at_call 146; refine (HMAY.out _ HBX.out.b3_bel).mono ?_; rintro e w2 ⟨rfl, hb⟩; replace HBX := Lib.hid (bx3_step HBX.out hb); obtain ⟨r0, r1, r2, r3, r4, r5, r6⟩ := HK.out _ HBX.out; clear hb)
       | (go_at_call 134; refine (HVS.out _ HBX.out.b3_bel).mono ?_; rintro e w3 ⟨rfl, hb⟩; replace HBX := Lib.hid (bx3_step HBX.out hb); obtain ⟨r0, r1, r2, r3, r4, r5, r6⟩ := HK.out _ HBX.out; clear hb))
      go_ret
      refine ⟨?_, HBX.out.b3_bel⟩
      rw [HANS.out]
      first | rfl | (cases may <;> rfl) | (cases vd <;> rfl)
     ·clear HVS
      go_enter Tryz.func122, Tryz.ntmps122
      go_wp2_with (first
       | (go_at_call 40; refine (HN.out _ HBX.out.b3_bel).mono ?_; rintro e w1 ⟨rfl, hb⟩; replace HBX := Lib.hid (bx3_step HBX.out hb); obtain ⟨r0, r1, r2, r3, r4, r5, r6⟩ := HK.out _ HBX.out; clear hb)
       | (go_at_call 146; refine (HMAY.out _ HBX.out.b3_bel).mono ?_; rintro e w2 ⟨rfl, hb⟩; replace HBX := Lib.hid (bx3_step HBX.out hb); obtain ⟨r0, r1, r2, r3, r4, r5, r6⟩ := HK.out _ HBX.out; clear hb)
       | (go_at_call 134; refine (HVS.out _ HBX.out.b3_bel).mono ?_; rintro e w3 ⟨rfl, hb⟩; replace HBX := Lib.hid (bx3_step HBX.out hb); obtain ⟨r0, r1, r2, r3, r4, r5, r6⟩ := HK.out _ HBX.out; clear hb))
      go_ret
      refine ⟨?_, HBX.out.b3_bel⟩
      rw [HANS.out]
      first | rfl | (cases may <;> rfl) | (cases vd <;> rfl)
    ·clear HVS hL0
     go_enter Tryz.func122, Tryz.ntmps122
     go_wp2_with (first
      | (go_at_call 40; refine (HN.out _ HBX.out.b3_bel).mono ?_; rintro e w1 ⟨rfl, hb⟩; replace HBX := Lib.hid (bx3_step HBX.out hb); obtain ⟨r0, r1, r2, r3, r4, r5, r6⟩ := HK.out _ HBX.out; clear hb)
      | (go_at_call 146; refine (HMAY.out _ HBX.out.b3_bel).mono ?_; rintro e w2 ⟨rfl, hb⟩; replace HBX := Lib.hid (bx3_step HBX.out hb); obtain ⟨r0, r1, r2, r3, r4, r5, r6⟩ := HK.out _ HBX.out; clear hb)
      | (go_at_call 134; refine (HVS.out _ HBX.out.b3_bel).mono ?_; rintro e w3 ⟨rfl, hb⟩; replace HBX := Lib.hid (bx3_step HBX.out hb); obtain ⟨r0, r1, r2, r3, r4, r5, r6⟩ := HK.out _ HBX.out; clear hb))
     go_ret
     refine ⟨?_, HBX.out.b3_bel⟩
     rw [HANS.out]
     first | rfl | (cases may <;> rfl) | (cases vd <;> rfl)
   ·have e12 : (ty == 12) = false := beq_false_of_ne h12
    clear W2 HVS
    by_cases h13 : ty = 13
    ·subst h13
     have HANS := Lib.hid (W3.out rfl)
     clear W3 W4 W5 hso hL1 hnb h12 e12
     rcases hvn with ⟨rfl, rfl, g1⟩ | ⟨rfl, g0, g1⟩
     ·clear g1
      rcases hL0 with ⟨rfl, rfl, g2⟩ | ⟨rfl, g1, g2⟩
      ·clear g2
       go_enter Tryz.func122, Tryz.ntmps122
       go_wp2_with (first
        | (go_at_call 40; refine (HN.out _ HBX.out.b3_bel).mono ?_; rintro e w1 ⟨rfl, hb⟩; replace HBX := Lib.hid (bx3_step HBX.out hb); obtain ⟨r0, r1, r2, r3, r4, r5, r6⟩ := HK.out _ HBX.out; clear hb)
        | (go_at_call 146; refine (HMAY.out _ HBX.out.b3_bel).mono ?_; rintro e w2 ⟨rfl, hb⟩; replace HBX := Lib.hid (bx3_step HBX.out hb); obtain ⟨r0, r1, r2, r3, r4, r5, r6⟩ := HK.out _ HBX.out; clear hb)
        | (go_at_call 134; refine (HVS.out _ HBX.out.b3_bel).mono ?_; rintro e w3 ⟨rfl, hb⟩; replace HBX := Lib.hid (bx3_step HBX.out hb); obtain ⟨r0, r1, r2, r3, r4, r5, r6⟩ := HK.out _ HBX.out; clear hb))
       go_ret
       refine ⟨?_, HBX.out.b3_bel⟩
       rw [HANS.out]
       first | rfl | (cases may <;> rfl) | (cases vd <;> rfl)
      ·skip
       go_enter Tryz.func122, Tryz.ntmps122
       go_wp2_with (first
        | (go_at_call 40; refine (HN.out _ HBX.out.b3_bel).mono ?_; rintro e w1 ⟨rfl, hb⟩; replace HBX := Lib.hid (bx3_step HBX.out hb); obtain ⟨r0, r1, r2, r3, r4, r5, r6⟩ := HK.out _ HBX.out; clear hb)
        | (go_at_call 146; refine (HMAY.out _ HBX.out.b3_bel).mono ?_; rintro e w2 ⟨rfl, hb⟩; replace HBX := Lib.hid (bx3_step HBX.out hb); obtain ⟨r0, r1, r2, r3, r4, r5, r6⟩ := HK.out _ HBX.out; clear hb)
        | (go_at_call 134; refine (HVS.out _ HBX.out.b3_bel).mono ?_; rintro e w3 ⟨rfl, hb⟩; replace HBX := Lib.hid (bx3_step HBX.out hb); obtain ⟨r0, r1, r2, r3, r4, r5, r6⟩ := HK.out _ HBX.out; clear hb))
       go_ret
       refine ⟨?_, HBX.out.b3_bel⟩
       rw [HANS.out]
       first | rfl | (cases may <;> rfl) | (cases vd <;> rfl)
     ·clear hL0
      go_enter Tryz.func122, Tryz.ntmps122
      go_wp2_with (first
       | (go_at_call 40; refine (HN.out _ HBX.out.b3_bel).mono ?_; rintro e w1 ⟨rfl, hb⟩; replace HBX := Lib.hid (bx3_step HBX.out hb); obtain ⟨r0, r1, r2, r3, r4, r5, r6⟩ := HK.out _ HBX.out; clear hb)
       | (go_at_call 146; refine (HMAY.out _ HBX.out.b3_bel).mono ?_; rintro e w2 ⟨rfl, hb⟩; replace HBX := Lib.hid (bx3_step HBX.out hb); obtain ⟨r0, r1, r2, r3, r4, r5, r6⟩ := HK.out _ HBX.out; clear hb)
       | (go_at_call 134; refine (HVS.out _ HBX.out.b3_bel).mono ?_; rintro e w3 ⟨rfl, hb⟩; replace HBX := Lib.hid (bx3_step HBX.out hb); obtain ⟨r0, r1, r2, r3, r4, r5, r6⟩ := HK.out _ HBX.out; clear hb))
      go_ret
      refine ⟨?_, HBX.out.b3_bel⟩
      rw [HANS.out]
      first | rfl | (cases may <;> rfl) | (cases vd <;> rfl)
    ·have e13 : (ty == 13) = false := beq_false_of_ne h13
     clear W3 hL0
     by_cases h15 : ty = 15
     ·subst h15
      have HANS := Lib.hid (W4.out rfl)
      clear W4 W5 hnb h12 e12 h13 e13
      rcases hvn with ⟨rfl, rfl, g1⟩ | ⟨rfl, g0, g1⟩
      ·clear g1
       rcases hso with ⟨rfl, s1, s2⟩ | ⟨rfl, s1, s2⟩
       ·rcases hL1 with ⟨hl1, g2⟩ | ⟨hl1, g1, g2⟩
        ·obtain ⟨t, ht⟩ : ∃ t, x.vm[0]? = some t := ⟨_, List.getElem?_eq_getElem (by have := HLN.out; omega)⟩
         have HS1 := Lib.hid (soleT_one (V := treeN s n fr) (by rw [← HLN.out]; exact hl1) ht)
         obtain ⟨m, ga, oa, C1, na, cc1, C2, nr, cc2, hnm, rfl, _, hca, hta⟩ := kid_at HKS.out ht
         have htm := List.mem_of_getElem? ht
         have HT := Lib.hid (fun u (hb : Below w.heap.size w u) => HTR.out m hnm u hb fr _ _ _ _ _ _ t (trAt_bel hta hb) (by have := HFI.out.2.2 t htm; rw [hnm] at this; exact this) (by have := HOI.out.2 t htm; rw [hnm] at this; exact this))
         rw [← hnm, ← HS1.out, HSR.out] at HT
         have HCA : Hid (∀ u, Below w.heap.size w u → u.cell? ⟨ga, oa, none⟩ = some (.slice C1 na cc1) ∧ u.cell? ⟨ga, oa + 1, none⟩ = some (.slice C2 nr cc2)) := Lib.hid (fun u hb => by have := hca u (stay_bel hb); simpa using this)
         obtain ⟨so1, hso1⟩ : ∃ b, b = soleT (treeN s n fr) x.vm := ⟨_, rfl⟩
         rw [← hso1] at HT HANS
         subst hl1
         clear hso1 ht hca hta hnm htm HS1 HLN HKS HTR HFI HOI HFR HSR g2
         go_enter Tryz.func122, Tryz.ntmps122
         go_wp2_with (first
          | (go_at_call 40; refine (HN.out _ HBX.out.b3_bel).mono ?_; rintro e w1 ⟨rfl, hb⟩; replace HBX := Lib.hid (bx3_step HBX.out hb); obtain ⟨r0, r1, r2, r3, r4, r5, r6⟩ := HK.out _ HBX.out; clear hb)
          | (go_at_call 146; refine (HMAY.out _ HBX.out.b3_bel).mono ?_; rintro e w2 ⟨rfl, hb⟩; replace HBX := Lib.hid (bx3_step HBX.out hb); obtain ⟨r0, r1, r2, r3, r4, r5, r6⟩ := HK.out _ HBX.out; clear hb)
          | (go_at_call 134; refine (HVS.out _ HBX.out.b3_bel).mono ?_; rintro e w3 ⟨rfl, hb⟩; replace HBX := Lib.hid (bx3_step HBX.out hb); obtain ⟨r0, r1, r2, r3, r4, r5, r6⟩ := HK.out _ HBX.out; clear hb))
         have HBY := HBX
         replace HBX := Lib.hid (bx3_step HBX.out (drewN_under _ 1))
         go_region_held3 (fun u => u.cell? ⟨w.heap.size, 0, none⟩ = some (.slice A ne ca) ∧ u.cell? ⟨w.heap.size, 1, none⟩ = some (.slice A2 nm ca2) ∧ u.cell? ⟨w.heap.size + 1, 2, none⟩ = some (.int .i64 15) ∧ u.cell? ⟨w.heap.size + 1, 3, none⟩ = some (.string s3) ∧ u.cell? ⟨w.heap.size + 1 + 1, 0, none⟩ = some (.int .u64 0) ∧ u.cell? ⟨w.heap.size + 1 + 1, 1, none⟩ = some (.string so) ∧ u.cell? ⟨w.heap.size + 1 + 1, 2, none⟩ = some (.slice (some ⟨ga, oa, none⟩) 1 c1) ∧ u.cell? ⟨ga, oa, none⟩ = some (.slice C1 na cc1) ∧ u.cell? ⟨ga, oa + 1, none⟩ = some (.slice C2 nr cc2))
          (first | exact and7 (HK.out _ HBX.out) (HCA.out _ HBX.out.b3_bel) | exact and7 (HK.out _ HBY.out) (HCA.out _ HBY.out.b3_bel))
          (first
           | (go_at_call 35; refine (HT.out _ HBX.out.b3_bel).mono ?_; rintro e u1 ⟨rfl, hb⟩; replace HBX := Lib.hid (bx3_step HBX.out hb); clear hb))
         go_wp2
         go_ret
         refine ⟨?_, HBX.out.b3_bel⟩
         rw [HANS.out]
         first | rfl | (cases so1 <;> rfl)
        ·have hs0 : soleT (treeN s n fr) x.vm = false := soleT_not (by rw [← HLN.out]; exact hl1)
         rw [hs0] at HANS
         clear hs0 hl1
         go_enter Tryz.func122, Tryz.ntmps122
         go_wp2_with (first
          | (go_at_call 40; refine (HN.out _ HBX.out.b3_bel).mono ?_; rintro e w1 ⟨rfl, hb⟩; replace HBX := Lib.hid (bx3_step HBX.out hb); obtain ⟨r0, r1, r2, r3, r4, r5, r6⟩ := HK.out _ HBX.out; clear hb)
          | (go_at_call 146; refine (HMAY.out _ HBX.out.b3_bel).mono ?_; rintro e w2 ⟨rfl, hb⟩; replace HBX := Lib.hid (bx3_step HBX.out hb); obtain ⟨r0, r1, r2, r3, r4, r5, r6⟩ := HK.out _ HBX.out; clear hb)
          | (go_at_call 134; refine (HVS.out _ HBX.out.b3_bel).mono ?_; rintro e w3 ⟨rfl, hb⟩; replace HBX := Lib.hid (bx3_step HBX.out hb); obtain ⟨r0, r1, r2, r3, r4, r5, r6⟩ := HK.out _ HBX.out; clear hb))
         go_quiet (fail)
         go_wp2
         go_ret
         refine ⟨?_, (vbel HBX.out.b3_bel (drewN_under _ nq))⟩
         rw [HANS.out]
         first | rfl | (cases may <;> rfl) | (cases vd <;> rfl)
       ·clear hL1
        go_enter Tryz.func122, Tryz.ntmps122
        go_wp2_with (first
         | (go_at_call 40; refine (HN.out _ HBX.out.b3_bel).mono ?_; rintro e w1 ⟨rfl, hb⟩; replace HBX := Lib.hid (bx3_step HBX.out hb); obtain ⟨r0, r1, r2, r3, r4, r5, r6⟩ := HK.out _ HBX.out; clear hb)
         | (go_at_call 146; refine (HMAY.out _ HBX.out.b3_bel).mono ?_; rintro e w2 ⟨rfl, hb⟩; replace HBX := Lib.hid (bx3_step HBX.out hb); obtain ⟨r0, r1, r2, r3, r4, r5, r6⟩ := HK.out _ HBX.out; clear hb)
         | (go_at_call 134; refine (HVS.out _ HBX.out.b3_bel).mono ?_; rintro e w3 ⟨rfl, hb⟩; replace HBX := Lib.hid (bx3_step HBX.out hb); obtain ⟨r0, r1, r2, r3, r4, r5, r6⟩ := HK.out _ HBX.out; clear hb))
        go_quiet (fail)
        go_wp2
        go_ret
        refine ⟨?_, (vbel HBX.out.b3_bel (drewN_under _ nq))⟩
        rw [HANS.out]
        first | rfl | (cases may <;> rfl) | (cases vd <;> rfl)
      ·clear hL1 hso
       go_enter Tryz.func122, Tryz.ntmps122
       go_wp2_with (first
        | (go_at_call 40; refine (HN.out _ HBX.out.b3_bel).mono ?_; rintro e w1 ⟨rfl, hb⟩; replace HBX := Lib.hid (bx3_step HBX.out hb); obtain ⟨r0, r1, r2, r3, r4, r5, r6⟩ := HK.out _ HBX.out; clear hb)
        | (go_at_call 146; refine (HMAY.out _ HBX.out.b3_bel).mono ?_; rintro e w2 ⟨rfl, hb⟩; replace HBX := Lib.hid (bx3_step HBX.out hb); obtain ⟨r0, r1, r2, r3, r4, r5, r6⟩ := HK.out _ HBX.out; clear hb)
        | (go_at_call 134; refine (HVS.out _ HBX.out.b3_bel).mono ?_; rintro e w3 ⟨rfl, hb⟩; replace HBX := Lib.hid (bx3_step HBX.out hb); obtain ⟨r0, r1, r2, r3, r4, r5, r6⟩ := HK.out _ HBX.out; clear hb))
       go_quiet (fail)
       go_wp2
       go_ret
       refine ⟨?_, (vbel HBX.out.b3_bel (drewN_under _ nq))⟩
       rw [HANS.out]
       first | rfl | (cases may <;> rfl) | (cases vd <;> rfl)
     ·have e15 : (ty == 15) = false := beq_false_of_ne h15
      have HANS := Lib.hid (W5.out rfl h12 h13 h15)
      clear W4 W5 hso hvn hL1 hnb
      go_enter Tryz.func122, Tryz.ntmps122
      go_wp2_with (first
       | (go_at_call 40; refine (HN.out _ HBX.out.b3_bel).mono ?_; rintro e w1 ⟨rfl, hb⟩; replace HBX := Lib.hid (bx3_step HBX.out hb); obtain ⟨r0, r1, r2, r3, r4, r5, r6⟩ := HK.out _ HBX.out; clear hb)
       | (go_at_call 146; refine (HMAY.out _ HBX.out.b3_bel).mono ?_; rintro e w2 ⟨rfl, hb⟩; replace HBX := Lib.hid (bx3_step HBX.out hb); obtain ⟨r0, r1, r2, r3, r4, r5, r6⟩ := HK.out _ HBX.out; clear hb)
       | (go_at_call 134; refine (HVS.out _ HBX.out.b3_bel).mono ?_; rintro e w3 ⟨rfl, hb⟩; replace HBX := Lib.hid (bx3_step HBX.out hb); obtain ⟨r0, r1, r2, r3, r4, r5, r6⟩ := HK.out _ HBX.out; clear hb))
      go_ret
      refine ⟨?_, HBX.out.b3_bel⟩
      rw [HANS.out]
      first | rfl | (cases may <;> rfl) | (cases vd <;> rfl)
end Go.Proofs.YtloheacncefkgaaGreatDoor

/- The document's layer 20: which slots are a field's; Knows. Conditions: those that each theorem names. -/
namespace Go.Proofs.YtloheacncefkgaaGreatDoor
open Go.RowKit
set_option linter.unusedVariables false
set_option maxRecDepth 100000

theorem all_pts {α : Type} {p : α → Bool} {l : List α} (h : ∀ (j : Nat) x, l[j]? = some x → p x = true) : l.all p = true := by
 rw [List.all_eq_true]
 intro x hx
 obtain ⟨i, hi, e⟩ := List.mem_iff_getElem.mp hx
 exact h i x (by rw [List.getElem?_eq_getElem hi, e])
theorem all_off {α : Type} {p : α → Bool} {l : List α} {j : Nat} {x : α} (h : l[j]? = some x) (hp : p x = false) : l.all p = false := by
 rw [List.all_eq_false]
 exact ⟨x, List.mem_of_getElem? h, by rw [hp]; simp⟩
theorem head_at {α : Type} {l : List α} {x d : α} (h : l[0]? = some x) : l.headD d = x := by
 cases l with
 | nil => simp at h
 | cons y r => simp at h; simpa using h
/-- The slot's boxes and its field's. -/
structure RdW (w : World) (fb : Nat) (O1 O2 O3 O4 : Obj) (u : World) : Prop where
 r_b : Bx3 w u O1 O2 O3
 r_f : u.heap[fb]? = some O4
theorem RdW.on {w u u' : World} {fb : Nat} {O1 O2 O3 O4 : Obj} (h : RdW w fb O1 O2 O3 O4 u) (hb : Below u.heap.size u u') : RdW w fb O1 O2 O3 O4 u' := ⟨bx3_step h.r_b hb, (hb.block _ (lt_of_block h.r_f)).trans h.r_f⟩
theorem rdw_made {w u : World} {O1 O2 O3 : Obj} (h : Bx3 w u O1 O2 O3) (cs : Array Value) (t : TypeId) : RdW w u.heap.size O1 O2 O3 (.cells cs t (0, 0)) (u.alloc (.cells cs t)) := ⟨bx3_step h ((Below.refl _ _).alloc (Nat.le_refl _) _), heap_alloc_new _ _⟩

set_option maxHeartbeats 16000000 in
theorem rvslot_any {s : Sc} {n : Nat} {SS : Nat → Nat → Prop} {S T T2 : Nat → Prop} (H : ∀ k, n = k + 1 → RTree s k) (w : World) (env : U8Env w) {A A2 : Option Addr} {ne ca nm ca2 : Nat} (h : ScAt SS w A ne ca A2 nm ca2 s) {A1 A3 : Option Addr} {nf c1 nb c3 : Nat} {m : Ms} (sn : ByteArray) (hl : Lst 7 T fdR w A1 c1 m.fields) (hl2 : Lst 1 T2 inR w A3 c3 m.barred) (hnf : nf = m.fields.length) (hnb : nb = m.barred.length)
 (x : Slt) {B1 : Option Addr} {d1 : Nat} (hv : VsAt S n w B1 d1 x.svals) (hf : FitS n x) (ho : BitS n x) :
 Calls Tryz.prog 83 #[.agg #[.slice A ne ca, .slice A2 nm ca2], .agg #[.string sn, .slice A1 nf c1, .slice A3 nb c3], .agg #[.int .i64 x.snum, .slice B1 x.svals.length d1]] w fun e w' => e = .returned (.bool (slotT (treeN s n) m x)) ∧ Below w.heap.size w w' := by
 have q1 := hl.l_le
 have q2 := hl.l_max
 rw [← hnf] at q1
 unfold maxLen at q2
 have q3 := hv.l_le
 have q4 := hv.l_max
 unfold maxLen at q4
 have HNU := Lib.hid (fun u (hb : Below w.heap.size w u) => rxnumber_any u sn (lst_keep (S' := T) hl fdR_keep (fun _ h => h) (bel_keep hb)) (lst_keep (S' := T2) hl2 inR_keep (fun _ h => h) (bel_keep hb)) hnf hnb x.snum)
 have HBX := Lib.hid (bx3_start w #[.slice A ne ca, .slice A2 nm ca2] #[.string sn, .slice A1 nf c1, .slice A3 nb c3] #[.int .i64 x.snum, .slice B1 x.svals.length d1] 25 57 67)
 have HK : Hid (∀ u, Bx3 w u (.cells #[.slice A ne ca, .slice A2 nm ca2] 25 (0, 0)) (.cells #[.string sn, .slice A1 nf c1, .slice A3 nb c3] 57 (0, 0)) (.cells #[.int .i64 x.snum, .slice B1 x.svals.length d1] 67 (0, 0)) → u.cell? ⟨w.heap.size, 0, none⟩ = some (.slice A ne ca) ∧ u.cell? ⟨w.heap.size, 1, none⟩ = some (.slice A2 nm ca2) ∧ u.cell? ⟨w.heap.size + 1, 0, none⟩ = some (.string sn) ∧ u.cell? ⟨w.heap.size + 1, 1, none⟩ = some (.slice A1 nf c1) ∧ u.cell? ⟨w.heap.size + 1, 2, none⟩ = some (.slice A3 nb c3) ∧ u.cell? ⟨w.heap.size + 1 + 1, 0, none⟩ = some (.int .i64 x.snum) ∧ u.cell? ⟨w.heap.size + 1 + 1, 1, none⟩ = some (.slice B1 x.svals.length d1)) := Lib.hid (fun u hu => ⟨obj_cell hu.b3_one 0, obj_cell hu.b3_one 1, obj_cell hu.b3_two 0, obj_cell hu.b3_two 1, obj_cell hu.b3_two 2, obj_cell hu.b3_thr 0, obj_cell hu.b3_thr 1⟩)
 obtain ⟨s0', s1', m0, m1, m2, x0, x1⟩ := HK.out _ HBX.out
 rcases fld_way m x.snum with ⟨hn1, hn2⟩ | ⟨i, f, hn1, hif, hn2⟩
 ·have hsl : slotT (treeN s n) m x = false := by unfold slotT; rw [hn2]
  rw [hsl]
  rw [hn1] at HNU
  clear H env h hl hl2 hnf hnb hv hf ho hn1 hn2 hsl
  generalize x.svals.length = lv at *
  generalize x.snum = zn at *
  go_enter Tryz.func83, Tryz.ntmps83
  go_wp2_with (go_at_call 84; refine (HNU.out _ HBX.out.b3_bel).mono ?_; rintro e w1 ⟨rfl, hb⟩; replace HBX := Lib.hid (bx3_step HBX.out hb); clear hb)
  go_ret
  exact ⟨rfl, HBX.out.b3_bel⟩
 ·have hif2 := (List.getElem?_eq_some_iff.mp hif).1
  have hsl : slotT (treeN s n) m x = slotF (treeN s n) f x := by unfold slotT; rw [hn2]
  rw [hsl, slotF_first]
  rw [hn1] at HNU
  obtain ⟨gf, of, rfl, _, hcf⟩ := fd_at hl hif
  have hi9 : i < nf := by omega
  have HCF := Lib.hid hcf
  have HVAL := Lib.hid (fun u (hb : Below w.heap.size w u) (v : Va) (hm : v ∈ x.svals) C cc (hk : KsAt S n u C cc v.vm) => rvval_any H u (env.goesOn hb) (scAt_bel h hb) f v hk (hf.2 v hm) (ho v hm))
  have HVS := Lib.hid hv
  have HH := Lib.hid (fun u => rfhidden_any f u)
  have g3 : decide ((i : Int) < 0) = false := decide_eq_false (by omega)
  have g4 : decide ((i : Int) < (nf : Int)) = true := decide_eq_true (by omega)
  obtain ⟨V, hV⟩ : ∃ V, V = treeN s n := ⟨_, rfl⟩
  rw [← hV] at HVAL ⊢
  have HID : Hid (hiddenT f = true → f.rep = false) := Lib.hid hid_rep
  clear H env h hl hl2 hnf hnb hv hf ho hn1 hn2 hsl hif hif2 hcf hV
  obtain ⟨fl, hfl⟩ : ∃ fl, fl = f := ⟨_, rfl⟩
  obtain ⟨hd, hhd⟩ : ∃ hd, hd = hiddenT f := ⟨_, rfl⟩
  rw [← hhd] at HH HID ⊢
  unfold fdV at HVAL HH
  have HFL := Lib.hid hfl
  obtain ⟨vf, hvf⟩ : ∃ vf, vf = valT V f := ⟨_, rfl⟩
  rw [← hvf] at HVAL ⊢
  clear hfl hhd hvf
  generalize strOf f.name = s0 at *
  generalize strOf f.ref = s3 at *
  generalize strOf f.one = s6 at *
  generalize f.num = z1 at *
  generalize f.ty = z2 at *
  generalize f.rep = b4 at *
  generalize f.loose = b5 at *
  clear HFL fl
  obtain ⟨lv, hlv⟩ : ∃ lv, lv = x.svals.length := ⟨_, rfl⟩
  have HLV := Lib.hid hlv
  rw [← hlv] at q3 HK HBX x1 ⊢
  clear hlv
  generalize x.snum = zn at *
  by_cases hl0 : lv = 0
  ·subst hl0
   go_enter Tryz.func83, Tryz.ntmps83
   go_wp2_with (go_at_call 84; refine (HNU.out _ HBX.out.b3_bel).mono ?_; rintro e w1 ⟨rfl, hb⟩; replace HBX := Lib.hid (bx3_step HBX.out hb); obtain ⟨s0', s1', m0, m1, m2, x0, x1⟩ := HK.out _ HBX.out; have d := HCF.out _ HBX.out.b3_bel; obtain ⟨d0, d1', d2, d3, d4, d5, d6⟩ := d; have x1o := fun o => cell_under ((Below.refl _ w1).alloc (Nat.le_refl _) o) x1; clear hb)
   go_ret
   refine ⟨?_, HBX.out.b3_bel⟩
   simp
  have hl0e : ((lv : Int) == 0) = false := beq_false_of_ne (by omega)
  have hl0i : ¬ (lv : Int) = 0 := by omega
  by_cases hb1 : b4 = false ∧ ¬ lv = 1
  ·obtain ⟨rfl, hl1⟩ := hb1
   have e1 : ((lv : Int) == 1) = false := beq_false_of_ne (by omega)
   have e2 : ((lv : Int) != 1) = true := bne_iff_ne.2 (by omega)
   have e3 : ¬ (lv : Int) = 1 := by omega
   go_enter Tryz.func83, Tryz.ntmps83
   go_wp2_with (go_at_call 84; refine (HNU.out _ HBX.out.b3_bel).mono ?_; rintro e w1 ⟨rfl, hb⟩; replace HBX := Lib.hid (bx3_step HBX.out hb); obtain ⟨s0', s1', m0, m1, m2, x0, x1⟩ := HK.out _ HBX.out; have d := HCF.out _ HBX.out.b3_bel; obtain ⟨d0, d1', d2, d3, d4, d5, d6⟩ := d; have x1o := fun o => cell_under ((Below.refl _ w1).alloc (Nat.le_refl _) o) x1; clear hb)
   go_ret
   refine ⟨?_, (HBX.out.b3_bel).alloc HBX.out.b3_bel.size _⟩
   rw [decide_eq_false hl1]
   simp
  have hor : (b4 || decide (lv = 1)) = true := by
   cases b4 with
   | true => rfl
   | false => simpa using hb1
  rw [decide_eq_false hl0, hor]
  have HO1 : Hid (hd = true → b4 = false) := HID
  have hbb : b4 = true ∨ (b4 = false ∧ lv = 1) := by
   cases b4 with
   | true => exact .inl rfl
   | false => exact .inr ⟨rfl, by simpa using hb1⟩
  obtain ⟨v0, hv0⟩ : ∃ v0, x.svals[0]? = some v0 := ⟨_, List.getElem?_eq_getElem (by have := HLV.out; omega)⟩
  rw [head_at hv0]
  have HV0 := Lib.hid hv0
  clear hb1 hor hv0 HID
  cases hd with
  | false =>
    rcases hbb with rfl | ⟨rfl, rfl⟩
    ·clear HO1
     go_enter Tryz.func83, Tryz.ntmps83
     go_wp2_with (go_at_call 84; refine (HNU.out _ HBX.out.b3_bel).mono ?_; rintro e w1 ⟨rfl, hb⟩; replace HBX := Lib.hid (bx3_step HBX.out hb); obtain ⟨s0', s1', m0, m1, m2, x0, x1⟩ := HK.out _ HBX.out; have d := HCF.out _ HBX.out.b3_bel; obtain ⟨d0, d1', d2, d3, d4, d5, d6⟩ := d; have x1o := fun o => cell_under ((Below.refl _ w1).alloc (Nat.le_refl _) o) x1; clear hb)
     have HRW := Lib.hid (rdw_made HBX.out #[.string s0, .int .i64 z1, .int .i64 z2, .string s3, .bool true, .bool b5, .string s6] 44)
     obtain ⟨fb, hfb⟩ : ∃ fb, fb = w1.heap.size := ⟨_, rfl⟩
     rw [← hfb] at HRW ⊢
     have HKR : Hid (∀ u, RdW w fb (.cells #[.slice A ne ca, .slice A2 nm ca2] 25 (0, 0)) (.cells #[.string sn, .slice (some ⟨gf, of, none⟩) nf c1, .slice A3 nb c3] 57 (0, 0)) (.cells #[.int .i64 zn, .slice B1 lv d1] 67 (0, 0)) (.cells #[.string s0, .int .i64 z1, .int .i64 z2, .string s3, .bool true, .bool b5, .string s6] 44 (0, 0)) u → (u.cell? ⟨w.heap.size, 0, none⟩ = some (.slice A ne ca) ∧ u.cell? ⟨w.heap.size, 1, none⟩ = some (.slice A2 nm ca2)) ∧ (u.cell? ⟨fb, 0, none⟩ = some (.string s0) ∧ u.cell? ⟨fb, 1, none⟩ = some (.int .i64 z1) ∧ u.cell? ⟨fb, 2, none⟩ = some (.int .i64 z2) ∧ u.cell? ⟨fb, 3, none⟩ = some (.string s3) ∧ u.cell? ⟨fb, 4, none⟩ = some (.bool true) ∧ u.cell? ⟨fb, 5, none⟩ = some (.bool b5) ∧ u.cell? ⟨fb, 6, none⟩ = some (.string s6)) ∧ u.cell? ⟨w.heap.size + 1 + 1, 1, none⟩ = some (.slice B1 lv d1)) := Lib.hid (fun u hu => ⟨⟨obj_cell hu.r_b.b3_one 0, obj_cell hu.r_b.b3_one 1⟩, ⟨obj_cell hu.r_f 0, obj_cell hu.r_f 1, obj_cell hu.r_f 2, obj_cell hu.r_f 3, obj_cell hu.r_f 4, obj_cell hu.r_f 5, obj_cell hu.r_f 6⟩, obj_cell hu.r_b.b3_thr 1⟩)
     clear x1o hfb s0' s1' m0 m1 m2 x0 x1 d0 d1' d2 d3 d4 d5 d6
     go_loopg [9] lv (fun gz x0 wr => ∃ k : Nat, x0 = .int .i64 (k : Int) ∧ k + gz = lv ∧ (∀ (j : Nat) v, j < k → x.svals[j]? = some v → vf v = true) ∧ RdW w fb (.cells #[.slice A ne ca, .slice A2 nm ca2] 25 (0, 0)) (.cells #[.string sn, .slice (some ⟨gf, of, none⟩) nf c1, .slice A3 nb c3] 57 (0, 0)) (.cells #[.int .i64 zn, .slice B1 lv d1] 67 (0, 0)) (.cells #[.string s0, .int .i64 z1, .int .i64 z2, .string s3, .bool true, .bool b5, .string s6] 44 (0, 0)) wr)
     case atStart => exact ⟨0, rfl, by omega, fun j v hj => absurd hj (Nat.not_lt_zero _), HRW.out⟩
     case round =>
      obtain ⟨k, rfl, hk, hall, hrw⟩ := hrel
      have HALL := Lib.hid hall
      replace HRW := Lib.hid hrw
      clear hall hrw
      obtain ⟨gn, hgn⟩ : ∃ gn, gn = gk := ⟨_, rfl⟩
      subst hgn
      obtain ⟨⟨a0, a1⟩, ⟨f0, f1, f2, f3, f4, f5, f6⟩, y1⟩ := HKR.out _ HRW.out
      by_cases hlt : k < lv
      ·have ti : decide ((k : Int) < ((lv : Nat) : Int)) = true := decide_eq_true (by omega)
       obtain ⟨v, hv⟩ : ∃ v, x.svals[k]? = some v := ⟨_, List.getElem?_eq_getElem (by have := HLV.out; omega)⟩
       obtain ⟨gv, ov, C, cc, hB, _, hcv, hkv⟩ := va_at HVS.out hv
       subst hB
       have HV := Lib.hid (fun u hb => HVAL.out u hb v (List.mem_of_getElem? hv) C cc (ksAt_bel hkv hb))
       have HCV : Hid (∀ u, Below w.heap.size w u → u.cell? ⟨gv, ov + k * 3, none⟩ = some (.int .u64 (v.vn : Int)) ∧ u.cell? ⟨gv, ov + k * 3 + 1, none⟩ = some (.string (strOf v.vs)) ∧ u.cell? ⟨gv, ov + k * 3 + 2, none⟩ = some (.slice C v.vm.length cc)) := Lib.hid (fun u hb => hcv u (stay_bel hb))
       have HVI := Lib.hid hv
       obtain ⟨b, hb⟩ : ∃ b, b = vf v := ⟨_, rfl⟩
       have HBV := Lib.hid hb
       rw [← hb] at HV
       clear hv hcv hkv hb
       generalize (v.vn : Int) = zv at *
       generalize strOf v.vs = sv at *
       generalize v.vm.length = lm at *
       have HRY := HRW
       replace HRW := Lib.hid (HRW.out.on (drewN_under _ 1))
       go_wp2
       go_region_held3 (fun u => ((u.cell? ⟨w.heap.size, 0, none⟩ = some (.slice A ne ca) ∧ u.cell? ⟨w.heap.size, 1, none⟩ = some (.slice A2 nm ca2)) ∧ (u.cell? ⟨fb, 0, none⟩ = some (.string s0) ∧ u.cell? ⟨fb, 1, none⟩ = some (.int .i64 z1) ∧ u.cell? ⟨fb, 2, none⟩ = some (.int .i64 z2) ∧ u.cell? ⟨fb, 3, none⟩ = some (.string s3) ∧ u.cell? ⟨fb, 4, none⟩ = some (.bool true) ∧ u.cell? ⟨fb, 5, none⟩ = some (.bool b5) ∧ u.cell? ⟨fb, 6, none⟩ = some (.string s6)) ∧ u.cell? ⟨w.heap.size + 1 + 1, 1, none⟩ = some (.slice (some ⟨gv, ov, none⟩) lv d1)) ∧ (u.cell? ⟨gv, ov + k * 3, none⟩ = some (.int .u64 zv) ∧ u.cell? ⟨gv, ov + k * 3 + 1, none⟩ = some (.string sv) ∧ u.cell? ⟨gv, ov + k * 3 + 2, none⟩ = some (.slice C lm cc)))
        (first | exact ⟨HKR.out _ HRW.out, HCV.out _ HRW.out.r_b.b3_bel⟩ | exact ⟨HKR.out _ HRY.out, HCV.out _ HRY.out.r_b.b3_bel⟩)
        (first
         | (go_at_call 122; refine (HV.out _ HRW.out.r_b.b3_bel).mono ?_; rintro e w2 ⟨rfl, hb⟩; replace HRW := Lib.hid (HRW.out.on hb); clear hb))
       cases b with
       | true =>
         go_wp2
         go_roundg (gn - 1)
         case measure => omega
         case rel => exact ⟨k + 1, by go_num, by omega, (fun j u hj hu => by
          by_cases hjk : j < k
          ·exact HALL.out j u hjk hu
          ·obtain rfl : j = k := by omega
           have e := HVI.out.symm.trans hu
           injection e with e
           rw [← e]
           exact HBV.out.symm), HRW.out⟩
       | false =>
         have hoff := all_off HVI.out HBV.out.symm
         go_wp2
         go_ret
         refine ⟨?_, HRW.out.r_b.b3_bel⟩
         rw [hoff]
         simp
      ·have ti : decide ((k : Int) < ((lv : Nat) : Int)) = false := decide_eq_false (by omega)
       have hon : x.svals.all vf = true := all_pts (fun j v hj => HALL.out j v (by have := (List.getElem?_eq_some_iff.mp hj).1; have := HLV.out; omega) hj)
       have HON := Lib.hid hon
       clear hon
       clear HVAL HVS HCF HNU HK HBX HKR HALL
       go_wp2_with (go_at_call 123; refine (HH.out _).mono ?_; rintro e w2 ⟨rfl, hb⟩; replace HRW := Lib.hid (HRW.out.on hb); clear hb)
       go_ret
       refine ⟨?_, HRW.out.r_b.b3_bel⟩
       rw [HON.out]
       first | rfl | simp
    ·clear HO1
     go_enter Tryz.func83, Tryz.ntmps83
     go_wp2_with (go_at_call 84; refine (HNU.out _ HBX.out.b3_bel).mono ?_; rintro e w1 ⟨rfl, hb⟩; replace HBX := Lib.hid (bx3_step HBX.out hb); obtain ⟨s0', s1', m0, m1, m2, x0, x1⟩ := HK.out _ HBX.out; have d := HCF.out _ HBX.out.b3_bel; obtain ⟨d0, d1', d2, d3, d4, d5, d6⟩ := d; have x1o := fun o => cell_under ((Below.refl _ w1).alloc (Nat.le_refl _) o) x1; clear hb)
     have HRW := Lib.hid (rdw_made HBX.out #[.string s0, .int .i64 z1, .int .i64 z2, .string s3, .bool false, .bool b5, .string s6] 44)
     obtain ⟨fb, hfb⟩ : ∃ fb, fb = w1.heap.size := ⟨_, rfl⟩
     rw [← hfb] at HRW ⊢
     have HKR : Hid (∀ u, RdW w fb (.cells #[.slice A ne ca, .slice A2 nm ca2] 25 (0, 0)) (.cells #[.string sn, .slice (some ⟨gf, of, none⟩) nf c1, .slice A3 nb c3] 57 (0, 0)) (.cells #[.int .i64 zn, .slice B1 1 d1] 67 (0, 0)) (.cells #[.string s0, .int .i64 z1, .int .i64 z2, .string s3, .bool false, .bool b5, .string s6] 44 (0, 0)) u → (u.cell? ⟨w.heap.size, 0, none⟩ = some (.slice A ne ca) ∧ u.cell? ⟨w.heap.size, 1, none⟩ = some (.slice A2 nm ca2)) ∧ (u.cell? ⟨fb, 0, none⟩ = some (.string s0) ∧ u.cell? ⟨fb, 1, none⟩ = some (.int .i64 z1) ∧ u.cell? ⟨fb, 2, none⟩ = some (.int .i64 z2) ∧ u.cell? ⟨fb, 3, none⟩ = some (.string s3) ∧ u.cell? ⟨fb, 4, none⟩ = some (.bool false) ∧ u.cell? ⟨fb, 5, none⟩ = some (.bool b5) ∧ u.cell? ⟨fb, 6, none⟩ = some (.string s6)) ∧ u.cell? ⟨w.heap.size + 1 + 1, 1, none⟩ = some (.slice B1 1 d1)) := Lib.hid (fun u hu => ⟨⟨obj_cell hu.r_b.b3_one 0, obj_cell hu.r_b.b3_one 1⟩, ⟨obj_cell hu.r_f 0, obj_cell hu.r_f 1, obj_cell hu.r_f 2, obj_cell hu.r_f 3, obj_cell hu.r_f 4, obj_cell hu.r_f 5, obj_cell hu.r_f 6⟩, obj_cell hu.r_b.b3_thr 1⟩)
     clear x1o hfb s0' s1' m0 m1 m2 x0 x1 d0 d1' d2 d3 d4 d5 d6
     go_loopg [9] 1 (fun gz x0 wr => ∃ k : Nat, x0 = .int .i64 (k : Int) ∧ k + gz = 1 ∧ (∀ (j : Nat) v, j < k → x.svals[j]? = some v → vf v = true) ∧ RdW w fb (.cells #[.slice A ne ca, .slice A2 nm ca2] 25 (0, 0)) (.cells #[.string sn, .slice (some ⟨gf, of, none⟩) nf c1, .slice A3 nb c3] 57 (0, 0)) (.cells #[.int .i64 zn, .slice B1 1 d1] 67 (0, 0)) (.cells #[.string s0, .int .i64 z1, .int .i64 z2, .string s3, .bool false, .bool b5, .string s6] 44 (0, 0)) wr)
     case atStart => exact ⟨0, rfl, by omega, fun j v hj => absurd hj (Nat.not_lt_zero _), HRW.out⟩
     case round =>
      obtain ⟨k, rfl, hk, hall, hrw⟩ := hrel
      have HALL := Lib.hid hall
      replace HRW := Lib.hid hrw
      clear hall hrw
      obtain ⟨gn, hgn⟩ : ∃ gn, gn = gk := ⟨_, rfl⟩
      subst hgn
      obtain ⟨⟨a0, a1⟩, ⟨f0, f1, f2, f3, f4, f5, f6⟩, y1⟩ := HKR.out _ HRW.out
      by_cases hlt : k < 1
      ·have ti : decide ((k : Int) < ((1 : Nat) : Int)) = true := decide_eq_true (by omega)
       obtain ⟨v, hv⟩ : ∃ v, x.svals[k]? = some v := ⟨_, List.getElem?_eq_getElem (by have := HLV.out; omega)⟩
       obtain ⟨gv, ov, C, cc, hB, _, hcv, hkv⟩ := va_at HVS.out hv
       subst hB
       have HV := Lib.hid (fun u hb => HVAL.out u hb v (List.mem_of_getElem? hv) C cc (ksAt_bel hkv hb))
       have HCV : Hid (∀ u, Below w.heap.size w u → u.cell? ⟨gv, ov + k * 3, none⟩ = some (.int .u64 (v.vn : Int)) ∧ u.cell? ⟨gv, ov + k * 3 + 1, none⟩ = some (.string (strOf v.vs)) ∧ u.cell? ⟨gv, ov + k * 3 + 2, none⟩ = some (.slice C v.vm.length cc)) := Lib.hid (fun u hb => hcv u (stay_bel hb))
       have HVI := Lib.hid hv
       obtain ⟨b, hb⟩ : ∃ b, b = vf v := ⟨_, rfl⟩
       have HBV := Lib.hid hb
       rw [← hb] at HV
       clear hv hcv hkv hb
       generalize (v.vn : Int) = zv at *
       generalize strOf v.vs = sv at *
       generalize v.vm.length = lm at *
       have HRY := HRW
       replace HRW := Lib.hid (HRW.out.on (drewN_under _ 1))
       go_wp2
       go_region_held3 (fun u => ((u.cell? ⟨w.heap.size, 0, none⟩ = some (.slice A ne ca) ∧ u.cell? ⟨w.heap.size, 1, none⟩ = some (.slice A2 nm ca2)) ∧ (u.cell? ⟨fb, 0, none⟩ = some (.string s0) ∧ u.cell? ⟨fb, 1, none⟩ = some (.int .i64 z1) ∧ u.cell? ⟨fb, 2, none⟩ = some (.int .i64 z2) ∧ u.cell? ⟨fb, 3, none⟩ = some (.string s3) ∧ u.cell? ⟨fb, 4, none⟩ = some (.bool false) ∧ u.cell? ⟨fb, 5, none⟩ = some (.bool b5) ∧ u.cell? ⟨fb, 6, none⟩ = some (.string s6)) ∧ u.cell? ⟨w.heap.size + 1 + 1, 1, none⟩ = some (.slice (some ⟨gv, ov, none⟩) 1 d1)) ∧ (u.cell? ⟨gv, ov + k * 3, none⟩ = some (.int .u64 zv) ∧ u.cell? ⟨gv, ov + k * 3 + 1, none⟩ = some (.string sv) ∧ u.cell? ⟨gv, ov + k * 3 + 2, none⟩ = some (.slice C lm cc)))
        (first | exact ⟨HKR.out _ HRW.out, HCV.out _ HRW.out.r_b.b3_bel⟩ | exact ⟨HKR.out _ HRY.out, HCV.out _ HRY.out.r_b.b3_bel⟩)
        (first
         | (go_at_call 122; refine (HV.out _ HRW.out.r_b.b3_bel).mono ?_; rintro e w2 ⟨rfl, hb⟩; replace HRW := Lib.hid (HRW.out.on hb); clear hb))
       cases b with
       | true =>
         go_wp2
         go_roundg (gn - 1)
         case measure => omega
         case rel => exact ⟨k + 1, by go_num, by omega, (fun j u hj hu => by
          by_cases hjk : j < k
          ·exact HALL.out j u hjk hu
          ·obtain rfl : j = k := by omega
           have e := HVI.out.symm.trans hu
           injection e with e
           rw [← e]
           exact HBV.out.symm), HRW.out⟩
       | false =>
         have hoff := all_off HVI.out HBV.out.symm
         go_wp2
         go_ret
         refine ⟨?_, HRW.out.r_b.b3_bel⟩
         rw [hoff]
         simp
      ·have ti : decide ((k : Int) < ((1 : Nat) : Int)) = false := decide_eq_false (by omega)
       have hon : x.svals.all vf = true := all_pts (fun j v hj => HALL.out j v (by have := (List.getElem?_eq_some_iff.mp hj).1; have := HLV.out; omega) hj)
       have HON := Lib.hid hon
       clear hon
       clear HVAL HVS HCF HNU HK HBX HKR HALL
       go_wp2_with (go_at_call 123; refine (HH.out _).mono ?_; rintro e w2 ⟨rfl, hb⟩; replace HRW := Lib.hid (HRW.out.on hb); clear hb)
       go_ret
       refine ⟨?_, HRW.out.r_b.b3_bel⟩
       rw [HON.out]
       first | rfl | simp
  | true =>
    obtain rfl := HO1.out rfl
    obtain ⟨_, rfl⟩ := hbb.resolve_left (by decide)
    go_enter Tryz.func83, Tryz.ntmps83
    go_wp2_with (go_at_call 84; refine (HNU.out _ HBX.out.b3_bel).mono ?_; rintro e w1 ⟨rfl, hb⟩; replace HBX := Lib.hid (bx3_step HBX.out hb); obtain ⟨s0', s1', m0, m1, m2, x0, x1⟩ := HK.out _ HBX.out; have d := HCF.out _ HBX.out.b3_bel; obtain ⟨d0, d1', d2, d3, d4, d5, d6⟩ := d; have x1o := fun o => cell_under ((Below.refl _ w1).alloc (Nat.le_refl _) o) x1; clear hb)
    have HRW := Lib.hid (rdw_made HBX.out #[.string s0, .int .i64 z1, .int .i64 z2, .string s3, .bool false, .bool b5, .string s6] 44)
    obtain ⟨fb, hfb⟩ : ∃ fb, fb = w1.heap.size := ⟨_, rfl⟩
    rw [← hfb] at HRW ⊢
    have HKR : Hid (∀ u, RdW w fb (.cells #[.slice A ne ca, .slice A2 nm ca2] 25 (0, 0)) (.cells #[.string sn, .slice (some ⟨gf, of, none⟩) nf c1, .slice A3 nb c3] 57 (0, 0)) (.cells #[.int .i64 zn, .slice B1 1 d1] 67 (0, 0)) (.cells #[.string s0, .int .i64 z1, .int .i64 z2, .string s3, .bool false, .bool b5, .string s6] 44 (0, 0)) u → (u.cell? ⟨w.heap.size, 0, none⟩ = some (.slice A ne ca) ∧ u.cell? ⟨w.heap.size, 1, none⟩ = some (.slice A2 nm ca2)) ∧ (u.cell? ⟨fb, 0, none⟩ = some (.string s0) ∧ u.cell? ⟨fb, 1, none⟩ = some (.int .i64 z1) ∧ u.cell? ⟨fb, 2, none⟩ = some (.int .i64 z2) ∧ u.cell? ⟨fb, 3, none⟩ = some (.string s3) ∧ u.cell? ⟨fb, 4, none⟩ = some (.bool false) ∧ u.cell? ⟨fb, 5, none⟩ = some (.bool b5) ∧ u.cell? ⟨fb, 6, none⟩ = some (.string s6)) ∧ u.cell? ⟨w.heap.size + 1 + 1, 1, none⟩ = some (.slice B1 1 d1)) := Lib.hid (fun u hu => ⟨⟨obj_cell hu.r_b.b3_one 0, obj_cell hu.r_b.b3_one 1⟩, ⟨obj_cell hu.r_f 0, obj_cell hu.r_f 1, obj_cell hu.r_f 2, obj_cell hu.r_f 3, obj_cell hu.r_f 4, obj_cell hu.r_f 5, obj_cell hu.r_f 6⟩, obj_cell hu.r_b.b3_thr 1⟩)
    clear x1o hfb s0' s1' m0 m1 m2 x0 x1 d0 d1' d2 d3 d4 d5 d6
    go_loopg [9] 1 (fun gz x0 wr => ∃ k : Nat, x0 = .int .i64 (k : Int) ∧ k + gz = 1 ∧ (∀ (j : Nat) v, j < k → x.svals[j]? = some v → vf v = true) ∧ RdW w fb (.cells #[.slice A ne ca, .slice A2 nm ca2] 25 (0, 0)) (.cells #[.string sn, .slice (some ⟨gf, of, none⟩) nf c1, .slice A3 nb c3] 57 (0, 0)) (.cells #[.int .i64 zn, .slice B1 1 d1] 67 (0, 0)) (.cells #[.string s0, .int .i64 z1, .int .i64 z2, .string s3, .bool false, .bool b5, .string s6] 44 (0, 0)) wr)
    case atStart => exact ⟨0, rfl, by omega, fun j v hj => absurd hj (Nat.not_lt_zero _), HRW.out⟩
    case round =>
     obtain ⟨k, rfl, hk, hall, hrw⟩ := hrel
     have HALL := Lib.hid hall
     replace HRW := Lib.hid hrw
     clear hall hrw
     obtain ⟨gn, hgn⟩ : ∃ gn, gn = gk := ⟨_, rfl⟩
     subst hgn
     obtain ⟨⟨a0, a1⟩, ⟨f0, f1, f2, f3, f4, f5, f6⟩, y1⟩ := HKR.out _ HRW.out
     by_cases hlt : k < 1
     ·have ti : decide ((k : Int) < ((1 : Nat) : Int)) = true := decide_eq_true (by omega)
      obtain ⟨v, hv⟩ : ∃ v, x.svals[k]? = some v := ⟨_, List.getElem?_eq_getElem (by have := HLV.out; omega)⟩
      obtain ⟨gv, ov, C, cc, hB, _, hcv, hkv⟩ := va_at HVS.out hv
      subst hB
      have HV := Lib.hid (fun u hb => HVAL.out u hb v (List.mem_of_getElem? hv) C cc (ksAt_bel hkv hb))
      have HCV : Hid (∀ u, Below w.heap.size w u → u.cell? ⟨gv, ov + k * 3, none⟩ = some (.int .u64 (v.vn : Int)) ∧ u.cell? ⟨gv, ov + k * 3 + 1, none⟩ = some (.string (strOf v.vs)) ∧ u.cell? ⟨gv, ov + k * 3 + 2, none⟩ = some (.slice C v.vm.length cc)) := Lib.hid (fun u hb => hcv u (stay_bel hb))
      have HVI := Lib.hid hv
      obtain ⟨b, hb⟩ : ∃ b, b = vf v := ⟨_, rfl⟩
      have HBV := Lib.hid hb
      rw [← hb] at HV
      clear hv hcv hkv hb
      generalize (v.vn : Int) = zv at *
      generalize strOf v.vs = sv at *
      generalize v.vm.length = lm at *
      have HRY := HRW
      replace HRW := Lib.hid (HRW.out.on (drewN_under _ 1))
      go_wp2
      go_region_held3 (fun u => ((u.cell? ⟨w.heap.size, 0, none⟩ = some (.slice A ne ca) ∧ u.cell? ⟨w.heap.size, 1, none⟩ = some (.slice A2 nm ca2)) ∧ (u.cell? ⟨fb, 0, none⟩ = some (.string s0) ∧ u.cell? ⟨fb, 1, none⟩ = some (.int .i64 z1) ∧ u.cell? ⟨fb, 2, none⟩ = some (.int .i64 z2) ∧ u.cell? ⟨fb, 3, none⟩ = some (.string s3) ∧ u.cell? ⟨fb, 4, none⟩ = some (.bool false) ∧ u.cell? ⟨fb, 5, none⟩ = some (.bool b5) ∧ u.cell? ⟨fb, 6, none⟩ = some (.string s6)) ∧ u.cell? ⟨w.heap.size + 1 + 1, 1, none⟩ = some (.slice (some ⟨gv, ov, none⟩) 1 d1)) ∧ (u.cell? ⟨gv, ov + k * 3, none⟩ = some (.int .u64 zv) ∧ u.cell? ⟨gv, ov + k * 3 + 1, none⟩ = some (.string sv) ∧ u.cell? ⟨gv, ov + k * 3 + 2, none⟩ = some (.slice C lm cc)))
       (first | exact ⟨HKR.out _ HRW.out, HCV.out _ HRW.out.r_b.b3_bel⟩ | exact ⟨HKR.out _ HRY.out, HCV.out _ HRY.out.r_b.b3_bel⟩)
       (first
        | (go_at_call 122; refine (HV.out _ HRW.out.r_b.b3_bel).mono ?_; rintro e w2 ⟨rfl, hb⟩; replace HRW := Lib.hid (HRW.out.on hb); clear hb))
      cases b with
      | true =>
        go_wp2
        go_roundg (gn - 1)
        case measure => omega
        case rel => exact ⟨k + 1, by go_num, by omega, (fun j u hj hu => by
         by_cases hjk : j < k
         ·exact HALL.out j u hjk hu
         ·obtain rfl : j = k := by omega
          have e := HVI.out.symm.trans hu
          injection e with e
          rw [← e]
          exact HBV.out.symm), HRW.out⟩
      | false =>
        have hoff := all_off HVI.out HBV.out.symm
        go_wp2
        go_ret
        refine ⟨?_, HRW.out.r_b.b3_bel⟩
        rw [hoff]
        simp
     ·have ti : decide ((k : Int) < ((1 : Nat) : Int)) = false := decide_eq_false (by omega)
      have hon : x.svals.all vf = true := all_pts (fun j v hj => HALL.out j v (by have := (List.getElem?_eq_some_iff.mp hj).1; have := HLV.out; omega) hj)
      have HON := Lib.hid hon
      clear hon
      obtain ⟨gv, ov, C, cc, hB, _, hcv, _⟩ := va_at HVS.out HV0.out
      subst hB
      have HCV : Hid (∀ u, Below w.heap.size w u → u.cell? ⟨gv, ov, none⟩ = some (.int .u64 (v0.vn : Int)) ∧ u.cell? ⟨gv, ov + 1, none⟩ = some (.string (strOf v0.vs))) := Lib.hid (fun u hb => by have h := hcv u (stay_bel hb); simp only [Nat.zero_mul, Nat.add_zero] at h; exact ⟨h.1, h.2.1⟩)
      have hvn := num_ways v0.vn
      have hso := txt_ways v0.vs
      have HZ : Hid (zeroT v0 = (decide (v0.vn = 0) && decide (v0.vs = []))) := Lib.hid rfl
      obtain ⟨ov', hov'⟩ : ∃ b, b = decide (v0.vn = 0) := ⟨_, rfl⟩
      obtain ⟨os', hos'⟩ : ∃ b, b = decide (v0.vs = []) := ⟨_, rfl⟩
      rw [← hov'] at hvn HZ
      rw [← hos'] at hso HZ
      clear HVAL HVS HCF HNU HK HBX HALL hcv hov' hos' HV0 HLV
      generalize v0.vn = vn at *
      generalize strOf v0.vs = sv at *
      rcases hvn with ⟨rfl, rfl, e1⟩ | ⟨rfl, e0, e1⟩
      ·rcases hso with ⟨rfl, t1, t2⟩ | ⟨rfl, t1, t2⟩
       ·go_wp2_with (go_at_call 123; refine (HH.out _).mono ?_; rintro e w2 ⟨rfl, hb⟩; replace HRW := Lib.hid (HRW.out.on hb); obtain ⟨_, _, y1⟩ := HKR.out _ HRW.out; obtain ⟨n0, n1⟩ := HCV.out _ HRW.out.r_b.b3_bel; clear hb)
        go_ret
        refine ⟨?_, HRW.out.r_b.b3_bel⟩
        rw [HON.out, HZ.out]
        first | rfl | simp
       ·go_wp2_with (go_at_call 123; refine (HH.out _).mono ?_; rintro e w2 ⟨rfl, hb⟩; replace HRW := Lib.hid (HRW.out.on hb); obtain ⟨_, _, y1⟩ := HKR.out _ HRW.out; obtain ⟨n0, n1⟩ := HCV.out _ HRW.out.r_b.b3_bel; clear hb)
        go_ret
        refine ⟨?_, HRW.out.r_b.b3_bel⟩
        rw [HON.out, HZ.out]
        first | rfl | simp
      ·have e2 : ((vn : Int) != 0) = true := bne_iff_ne.2 e0
       clear hso
       go_wp2_with (go_at_call 123; refine (HH.out _).mono ?_; rintro e w2 ⟨rfl, hb⟩; replace HRW := Lib.hid (HRW.out.on hb); obtain ⟨_, _, y1⟩ := HKR.out _ HRW.out; obtain ⟨n0, n1⟩ := HCV.out _ HRW.out.r_b.b3_bel; clear hb)
       go_ret
       refine ⟨?_, HRW.out.r_b.b3_bel⟩
       rw [HON.out, HZ.out]
       first | rfl | simp

end Go.Proofs.YtloheacncefkgaaGreatDoor
