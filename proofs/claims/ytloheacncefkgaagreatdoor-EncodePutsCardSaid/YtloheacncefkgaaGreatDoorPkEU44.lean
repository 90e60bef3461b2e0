/- Several texts in one: VdD, VdE. What each proves, and its conditions, stands at its own head. -/
import Derived.Test.YtloheacncefkgaaGreatDoorPkEU40
import Derived.Test.YtloheacncefkgaaGreatDoorPkEU39
import Derived.Test.YtloheacncefkgaaGreatDoorPkEU29
import Derived.Test.YtloheacncefkgaaGreatDoorPkEU18
import Derived.Test.YtloheacncefkgaaGreatDoorPkEU23
import Derived.Test.YtloheacncefkgaaGreatDoorPkEU20
import Derived.Test.YtloheacncefkgaaGreatDoorPkEU28
/- The program's layer 20: which values are a field's, the trees within being asked. Conditions: those that each theorem names. -/
namespace Go.Proofs.YtloheacncefkgaaGreatDoor
open Go.RowKit
set_option linter.unusedVariables false
set_option maxRecDepth 100000

/-- What the program's layer 20 reads of the variables: scalar's table, unicode/utf8's two tables. -/
def VdEnv (w : World) : Prop := ScEnv w ∧ U8Env w
theorem VdEnv.rolls {w w' : World} (h : VdEnv w) (hb : Below w.heap.size w w') : VdEnv w' := ⟨h.1.rides hb, h.2.goesOn hb⟩
def PTree (s : Sc) (n : Nat) : Prop := ∀ (SS : Nat → Nat → Prop) (S : Nat → Prop) (w : World) (A : Option Addr) (ne ca : Nat) (A2 : Option Addr) (nm ca2 : Nat) (name : List UInt8) (B : Option Addr) (na cb : Nat) (B2 : Option Addr) (nr cr : Nat) (x : Tr),
 VdEnv w → ScAt SS w A ne ca A2 nm ca2 s → TrAt S n w B na cb B2 nr cr x → FitN (n + 1) x → OkN (n + 1) x →
 Calls Tryz.prog 28 #[.agg #[.slice A ne ca, .slice A2 nm ca2], .string (strOf name), .agg #[.slice B na cb, .slice B2 nr cr]] w fun e w' => e = .returned (.bool (treeN s (n + 1) name x)) ∧ Below w.heap.size w w'
set_option maxHeartbeats 16000000 in
theorem pvval_any {s : Sc} {n : Nat} {SS : Nat → Nat → Prop} {S : Nat → Prop} (H : ∀ k, n = k + 1 → PTree s k) (w : World) (env : VdEnv w) {A A2 : Option Addr} {ne ca nm ca2 : Nat} (h : ScAt SS w A ne ca A2 nm ca2 s) (f : Fd) (x : Va) {A1 : Option Addr} {c1 : Nat} (hk : KsAt S n w A1 c1 x.vm)
 (hf : x.vs.length ≤ 100000 ∧ x.vm.length ≤ 1000 ∧ ∀ u ∈ x.vm, FitN n u) (ho : x.vn < 18446744073709551616 ∧ ∀ u ∈ x.vm, OkN n u) :
 Calls Tryz.prog 104 #[.agg #[.slice A ne ca, .slice A2 nm ca2], fdV f, .agg #[.int .u64 (x.vn : Int), .string (strOf x.vs), .slice A1 x.vm.length c1]] w fun e w' => e = .returned (.bool (valT (treeN s n) f x)) ∧ Below w.heap.size w w' := by
 have q1 := hk.l_le
 have q2 := hk.l_max
 unfold maxLen at q2
 have HN := Lib.hid (fun u (hb : Below w.heap.size w u) => pnumber_any f.ty u (env.1.rides hb))
 have HMAY := Lib.hid (fun u (hb : Below w.heap.size w u) => pmay_any f.ty x.vn u (env.1.rides hb) ho.1)
 have HVS := Lib.hid (fun u (hb : Below w.heap.size w u) => pvalid_any x.vs (by omega) u (env.2.goesOn hb))
 have HTR := Lib.hid (fun k (hk : n = k + 1) u (hb : Below w.heap.size w u) name B na cb B2 nr cr t (ht : TrAt S k u B na cb B2 nr cr t) (h1 : FitN (k + 1) t) (h2 : OkN (k + 1) t) => H k hk SS S u A ne ca A2 nm ca2 name B na cb B2 nr cr t (env.rolls hb) (scAt_bel h hb) ht h1 h2)
 have HKS := Lib.hid hk
 have HFI := Lib.hid hf
 have HOI := Lib.hid ho
 have hso := txt_ways x.vs
 have hvn := num_ways x.vn
 have hL0 := num_ways x.vm.length
 have hL1 := one_ways x.vm.length
 have HO : Hid (valT (treeN s n) f x = valT (treeN s n) f x) := Lib.hid rfl
 have W1 := Lib.hid (fun h => val_num (V := treeN s n) (f := f) (v := x) h)
 have W2 := Lib.hid (fun h => val_12 (V := treeN s n) (f := f) (v := x) h)
 have W3 := Lib.hid (fun h => val_13 (V := treeN s n) (f := f) (v := x) h)
 have W4 := Lib.hid (fun h => val_15 (V := treeN s n) (f := f) (v := x) h)
 have W5 := Lib.hid (fun h => val_no (V := treeN s n) (f := f) (v := x) h)
 obtain ⟨may, hmay⟩ : ∃ b, b = mayT f.ty x.vn := ⟨_, rfl⟩
 obtain ⟨vd, hvd⟩ : ∃ b, b = Lib.validD x.vs := ⟨_, rfl⟩
 obtain ⟨nb, hnb⟩ : ∃ b, b = numberT f.ty := ⟨_, rfl⟩
 rw [← hmay] at HMAY W1
 rw [← hvd] at HVS W2
 rw [← hnb] at HN W1 W5
 obtain ⟨ANS, hans⟩ : ∃ b, b = valT (treeN s n) f x := ⟨_, rfl⟩
 rw [← hans] at W1 W2 W3 W4 W5 ⊢
 clear env h hk hf ho HO hmay hvd hans
 unfold fdV
 obtain ⟨ty, hty⟩ : ∃ z, z = f.ty := ⟨_, rfl⟩
 obtain ⟨fr, hfr⟩ : ∃ z, z = f.ref := ⟨_, rfl⟩
 obtain ⟨ln, hln⟩ : ∃ z, z = x.vm.length := ⟨_, rfl⟩
 have HLN := Lib.hid hln
 have HFR := Lib.hid hfr
 rw [← hty] at HN HMAY W2 W3 W4 W5 hnb ⊢
 rw [← hfr] at W4 ⊢
 rw [← hln] at q1 hL0 hL1 W1 W2 W3 ⊢
 obtain ⟨ov, hov⟩ : ∃ b, b = decide (x.vn = 0) := ⟨_, rfl⟩
 obtain ⟨os, hos⟩ : ∃ b, b = decide (x.vs = []) := ⟨_, rfl⟩
 obtain ⟨ol, hol⟩ : ∃ b, b = decide (ln = 0) := ⟨_, rfl⟩
 rw [← hov] at hvn W2 W3 W4
 rw [← hos] at hso W1 W4
 rw [← hol] at hL0 W1 W2 W3
 clear hty hfr hln hov hos hol
 have hsz : (strOf fr).size = (strOf fr).size := rfl
 generalize hvv : x.vs = vs0 at *
 generalize x.vn = vn at *
 generalize strOf vs0 = so at *
 have HBX := Lib.hid (bx3_start w #[.slice A ne ca, .slice A2 nm ca2] #[.string (strOf f.name), .int .i64 f.num, .int .i64 ty, .string (strOf fr), .bool f.rep, .bool f.loose, .string (strOf f.one)] #[.int .u64 (vn : Int), .string so, .slice A1 ln c1] 25 44 64)
 generalize strOf f.name = s0 at *
 generalize hsr : strOf fr = s3 at *
 generalize strOf f.one = s6 at *
 generalize f.num = z1 at *
 generalize f.rep = b4 at *
 generalize f.loose = b5 at *
 have HSR := Lib.hid hsr
 have HK : Hid (∀ u, Bx3 w u (.cells #[.slice A ne ca, .slice A2 nm ca2] 25 (0, 0)) (.cells #[.string s0, .int .i64 z1, .int .i64 ty, .string s3, .bool b4, .bool b5, .string s6] 44 (0, 0)) (.cells #[.int .u64 (vn : Int), .string so, .slice A1 ln c1] 64 (0, 0)) → u.cell? ⟨w.heap.size, 0, none⟩ = some (.slice A ne ca) ∧ u.cell? ⟨w.heap.size, 1, none⟩ = some (.slice A2 nm ca2) ∧ u.cell? ⟨w.heap.size + 1, 2, none⟩ = some (.int .i64 ty) ∧ u.cell? ⟨w.heap.size + 1, 3, none⟩ = some (.string s3) ∧ u.cell? ⟨w.heap.size + 1 + 1, 0, none⟩ = some (.int .u64 (vn : Int)) ∧ u.cell? ⟨w.heap.size + 1 + 1, 1, none⟩ = some (.string so) ∧ u.cell? ⟨w.heap.size + 1 + 1, 2, none⟩ = some (.slice A1 ln c1)) := Lib.hid (fun u hu => ⟨obj_cell hu.b3_one 0, obj_cell hu.b3_one 1, obj_cell hu.b3_two 2, obj_cell hu.b3_two 3, obj_cell hu.b3_thr 0, obj_cell hu.b3_thr 1, obj_cell hu.b3_thr 2⟩)
 obtain ⟨r0, r1, r2, r3, r4, r5, r6⟩ := HK.out _ HBX.out
 clear hsr hsz hvv
 cases nb with
 | true =>
   have HANS := Lib.hid (W1.out rfl)
   clear W1 W2 W3 W4 W5 hvn hL1 HVS hnb
   rcases hso with ⟨rfl, s1, s2⟩ | ⟨rfl, s1, s2⟩
   ·rcases hL0 with ⟨rfl, rfl, g2⟩ | ⟨rfl, g1, g2⟩
    ·clear g2
     go_enter Tryz.func104, Tryz.ntmps104
     go_wp2_with (first
      | (go_at_call 38; refine (HN.out _ HBX.out.b3_bel).mono ?_; rintro e w1 ⟨rfl, hb⟩; replace HBX := Lib.hid (bx3_step HBX.out hb); obtain ⟨r0, r1, r2, r3, r4, r5, r6⟩ := HK.out _ HBX.out; clear hb)
      | (go_at_call 133; refine (HMAY.out _ HBX.out.b3_bel).mono ?_; rintro e w2 ⟨rfl, hb⟩; replace HBX := Lib.hid (bx3_step HBX.out hb); obtain ⟨r0, r1, r2, r3, r4, r5, r6⟩ := HK.out _ HBX.out; clear hb)
      | (go_at_call 134; refine (HVS.out _ HBX.out.b3_bel).mono ?_; rintro e w3 ⟨rfl, hb⟩; replace HBX := Lib.hid (bx3_step HBX.out hb); obtain ⟨r0, r1, r2, r3, r4, r5, r6⟩ := HK.out _ HBX.out; clear hb))
     go_ret
     refine ⟨?_, HBX.out.b3_bel⟩
     rw [HANS.out]
     first | rfl | (cases may <;> rfl) | (cases vd <;> rfl)
    ·clear HMAY
     go_enter Tryz.func104, Tryz.ntmps104
     go_wp2_with (first
      | (go_at_call 38; refine (HN.out _ HBX.out.b3_bel).mono ?_; rintro e w1 ⟨rfl, hb⟩; replace HBX := Lib.hid (bx3_step HBX.out hb); obtain ⟨r0, r1, r2, r3, r4, r5, r6⟩ := HK.out _ HBX.out; clear hb)
      | (go_at_call 133; refine (HMAY.out _ HBX.out.b3_bel).mono ?_; rintro e w2 ⟨rfl, hb⟩; replace HBX := Lib.hid (bx3_step HBX.out hb); obtain ⟨r0, r1, r2, r3, r4, r5, r6⟩ := HK.out _ HBX.out; clear hb)
      | (go_at_call 134; refine (HVS.out _ HBX.out.b3_bel).mono ?_; rintro e w3 ⟨rfl, hb⟩; replace HBX := Lib.hid (bx3_step HBX.out hb); obtain ⟨r0, r1, r2, r3, r4, r5, r6⟩ := HK.out _ HBX.out; clear hb))
     go_ret
     refine ⟨?_, HBX.out.b3_bel⟩
     rw [HANS.out]
     first | rfl | (cases may <;> rfl) | (cases vd <;> rfl)
   ·clear HMAY hL0
    go_enter Tryz.func104, Tryz.ntmps104
    go_wp2_with (first
     | (go_at_call 38; refine (HN.out _ HBX.out.b3_bel).mono ?_; rintro e w1 ⟨rfl, hb⟩; replace HBX := Lib.hid (bx3_step HBX.out hb); obtain ⟨r0, r1, r2, r3, r4, r5, r6⟩ := HK.out _ HBX.out; clear hb)
     | (go_at_call 133; refine (HMAY.out _ HBX.out.b3_bel).mono ?_; rintro e w2 ⟨rfl, hb⟩; replace HBX := Lib.hid (bx3_step HBX.out hb); obtain ⟨r0, r1, r2, r3, r4, r5, r6⟩ := HK.out _ HBX.out; clear hb)
     | (go_at_call 134; refine (HVS.out _ HBX.out.b3_bel).mono ?_; rintro e w3 ⟨rfl, hb⟩; replace HBX := Lib.hid (bx3_step HBX.out hb); obtain ⟨r0, r1, r2, r3, r4, r5, r6⟩ := HK.out _ HBX.out; clear hb))
    go_ret
    refine ⟨?_, HBX.out.b3_bel⟩
    rw [HANS.out]
    first | rfl | (cases may <;> rfl) | (cases vd <;> rfl)
 | false =>
   clear W1 HMAY
   by_cases h12 : ty = 12
   ·subst h12
    have HANS := Lib.hid (W2.out rfl)
    clear W2 W3 W4 W5 hso hL1 hnb
    rcases hvn with ⟨rfl, rfl, g1⟩ | ⟨rfl, g0, g1⟩
    ·clear g1
     rcases hL0 with ⟨rfl, rfl, g2⟩ | ⟨rfl, g1, g2⟩
     ·clear g2
      go_enter Tryz.func104, Tryz.ntmps104
      go_wp2_with (first
       | (go_at_call 38; refine (HN.out _ HBX.out.b3_bel).mono ?_; rintro e w1 ⟨rfl, hb⟩; replace HBX := Lib.hid (bx3_step HBX.out hb); obtain ⟨r0, r1, r2, r3, r4, r5, r6⟩ := HK.out _ HBX.out; clear hb)
       | (go_at_call 133; refine (HMAY.out _ HBX.out.b3_bel).mono ?_; rintro e w2 ⟨rfl, hb⟩; replace HBX := Lib.hid (bx3_step HBX.out hb); obtain ⟨r0, r1, r2, r3, r4, r5, r6⟩ := HK.out _ HBX.out; clear hb)
       | (go_at_call 134; refine (HVS.out _ HBX.out.b3_bel).mono ?_; rintro e w3 ⟨rfl, hb⟩; replace HBX := Lib.hid (bx3_step HBX.out hb); obtain ⟨r0, r1, r2, r3, r4, r5, r6⟩ := HK.out _ HBX.out; clear hb))
      go_ret
      refine ⟨?_, HBX.out.b3_bel⟩
      rw [HANS.out]
      first | rfl | (cases may <;> rfl) | (cases vd <;> rfl)
     ·clear HVS
      go_enter Tryz.func104, Tryz.ntmps104
      go_wp2_with (first
       | (go_at_call 38; refine (HN.out _ HBX.out.b3_bel).mono ?_; rintro e w1 ⟨rfl, hb⟩; replace HBX := Lib.hid (bx3_step HBX.out hb); obtain ⟨r0, r1, r2, r3, r4, r5, r6⟩ := HK.out _ HBX.out; clear hb)
       | (go_at_call 133; refine (HMAY.out _ HBX.out.b3_bel).mono ?_; rintro e w2 ⟨rfl, hb⟩; replace HBX := Lib.hid (bx3_step HBX.out hb); obtain ⟨r0, r1, r2, r3, r4, r5, r6⟩ := HK.out _ HBX.out; clear hb)
       | (go_at_call 134; refine (HVS.out _ HBX.out.b3_bel).mono ?_; rintro e w3 ⟨rfl, hb⟩; replace HBX := Lib.hid (bx3_step HBX.out hb); obtain ⟨r0, r1, r2, r3, r4, r5, r6⟩ := HK.out _ HBX.out; clear hb))
      go_ret
      refine ⟨?_, HBX.out.b3_bel⟩
      rw [HANS.out]
      first | rfl | (cases may <;> rfl) | (cases vd <;> rfl)
    ·clear HVS hL0
     go_enter Tryz.func104, Tryz.ntmps104
     go_wp2_with (first
      | (go_at_call 38; refine (HN.out _ HBX.out.b3_bel).mono ?_; rintro e w1 ⟨rfl, hb⟩; replace HBX := Lib.hid (bx3_step HBX.out hb); obtain ⟨r0, r1, r2, r3, r4, r5, r6⟩ := HK.out _ HBX.out; clear hb)
      | (go_at_call 133; refine (HMAY.out _ HBX.out.b3_bel).mono ?_; rintro e w2 ⟨rfl, hb⟩; replace HBX := Lib.hid (bx3_step HBX.out hb); obtain ⟨r0, r1, r2, r3, r4, r5, r6⟩ := HK.out _ HBX.out; clear hb)
      | (go_at_call 134; refine (HVS.out _ HBX.out.b3_bel).mono ?_; rintro e w3 ⟨rfl, hb⟩; replace HBX := Lib.hid (bx3_step HBX.out hb); obtain ⟨r0, r1, r2, r3, r4, r5, r6⟩ := HK.out _ HBX.out; clear hb))
     go_ret
     refine ⟨?_, HBX.out.b3_bel⟩
     rw [HANS.out]
     first | rfl | (cases may <;> rfl) | (cases vd <;> rfl)
   ·have e12 : (ty == 12) = false := beq_false_of_ne h12
    clear W2 HVS
    by_cases h13 : ty = 13
    ·subst h13
     have HANS := Lib.hid (W3.out rfl)
     clear W3 W4 W5 hso hL1 hnb h12 e12
     rcases hvn with ⟨rfl, rfl, g1⟩ | ⟨rfl, g0, g1⟩
     ·clear g1
      rcases hL0 with ⟨rfl, rfl, g2⟩ | ⟨rfl, g1, g2⟩
      ·clear g2
       go_enter Tryz.func104, Tryz.ntmps104
       go_wp2_with (first
        | (go_at_call 38; refine (HN.out _ HBX.out.b3_bel).mono ?_; rintro e w1 ⟨rfl, hb⟩; replace HBX := Lib.hid (bx3_step HBX.out hb); obtain ⟨r0, r1, r2, r3, r4, r5, r6⟩ := HK.out _ HBX.out; clear hb)
        | (go_at_call 133; refine (HMAY.out _ HBX.out.b3_bel).mono ?_; rintro e w2 ⟨rfl, hb⟩; replace HBX := Lib.hid (bx3_step HBX.out hb); obtain ⟨r0, r1, r2, r3, r4, r5, r6⟩ := HK.out _ HBX.out; clear hb)
        | (go_at_call 134; refine (HVS.out _ HBX.out.b3_bel).mono ?_; rintro e w3 ⟨rfl, hb⟩; replace HBX := Lib.hid (bx3_step HBX.out hb); obtain ⟨r0, r1, r2, r3, r4, r5, r6⟩ := HK.out _ HBX.out; clear hb))
       go_ret
       refine ⟨?_, HBX.out.b3_bel⟩
       rw [HANS.out]
       first | rfl | (cases may <;> rfl) | (cases vd <;> rfl)
      ·skip
       go_enter Tryz.func104, Tryz.ntmps104
       go_wp2_with (first
        | (go_at_call 38; refine (HN.out _ HBX.out.b3_bel).mono ?_; rintro e w1 ⟨rfl, hb⟩; replace HBX := Lib.hid (bx3_step HBX.out hb); obtain ⟨r0, r1, r2, r3, r4, r5, r6⟩ := HK.out _ HBX.out; clear hb)
        | (go_at_call 133; refine (HMAY.out _ HBX.out.b3_bel).mono ?_; rintro e w2 ⟨rfl, hb⟩; replace HBX := Lib.hid (bx3_step HBX.out hb); obtain ⟨r0, r1, r2, r3, r4, r5, r6⟩ := HK.out _ HBX.out; clear hb)
        | (go_at_call 134; refine (HVS.out _ HBX.out.b3_bel).mono ?_; rintro e w3 ⟨rfl, hb⟩; replace HBX := Lib.hid (bx3_step HBX.out hb); obtain ⟨r0, r1, r2, r3, r4, r5, r6⟩ := HK.out _ HBX.out; clear hb))
       go_ret
       refine ⟨?_, HBX.out.b3_bel⟩
       rw [HANS.out]
       first | rfl | (cases may <;> rfl) | (cases vd <;> rfl)
     ·clear hL0
      go_enter Tryz.func104, Tryz.ntmps104
      go_wp2_with (first
       | (go_at_call 38; refine (HN.out _ HBX.out.b3_bel).mono ?_; rintro e w1 ⟨rfl, hb⟩; replace HBX := Lib.hid (bx3_step HBX.out hb); obtain ⟨r0, r1, r2, r3, r4, r5, r6⟩ := HK.out _ HBX.out; clear hb)
       | (go_at_call 133; refine (HMAY.out _ HBX.out.b3_bel).mono ?_; rintro e w2 ⟨rfl, hb⟩; replace HBX := Lib.hid (bx3_step HBX.out hb); obtain ⟨r0, r1, r2, r3, r4, r5, r6⟩ := HK.out _ HBX.out; clear hb)
       | (go_at_call 134; refine (HVS.out _ HBX.out.b3_bel).mono ?_; rintro e w3 ⟨rfl, hb⟩; replace HBX := Lib.hid (bx3_step HBX.out hb); obtain ⟨r0, r1, r2, r3, r4, r5, r6⟩ := HK.out _ HBX.out; clear hb))
      go_ret
      refine ⟨?_, HBX.out.b3_bel⟩
      rw [HANS.out]
      first | rfl | (cases may <;> rfl) | (cases vd <;> rfl)
    ·have e13 : (ty == 13) = false := beq_false_of_ne h13
     clear W3 hL0
     by_cases h15 : ty = 15
     ·subst h15
      have HANS := Lib.hid (W4.out rfl)
      clear W4 W5 hnb h12 e12 h13 e13
      rcases hvn with ⟨rfl, rfl, g1⟩ | ⟨rfl, g0, g1⟩
      ·clear g1
       rcases hso with ⟨rfl, s1, s2⟩ | ⟨rfl, s1, s2⟩
       ·rcases hL1 with ⟨hl1, g2⟩ | ⟨hl1, g1, g2⟩
        ·obtain ⟨t, ht⟩ : ∃ t, x.vm[0]? = some t := ⟨_, List.getElem?_eq_getElem (by have := HLN.out; omega)⟩
         have HS1 := Lib.hid (soleT_one (V := treeN s n fr) (by rw [← HLN.out]; exact hl1) ht)
         obtain ⟨m, ga, oa, C1, na, cc1, C2, nr, cc2, hnm, rfl, _, hca, hta⟩ := kid_at HKS.out ht
         have htm := List.mem_of_getElem? ht
         have HT := Lib.hid (fun u (hb : Below w.heap.size w u) => HTR.out m hnm u hb fr _ _ _ _ _ _ t (trAt_bel hta hb) (by have := HFI.out.2.2 t htm; rw [hnm] at this; exact this) (by have := HOI.out.2 t htm; rw [hnm] at this; exact this))
         rw [← hnm, ← HS1.out, HSR.out] at HT
         have HCA : Hid (∀ u, Below w.heap.size w u → u.cell? ⟨ga, oa, none⟩ = some (.slice C1 na cc1) ∧ u.cell? ⟨ga, oa + 1, none⟩ = some (.slice C2 nr cc2)) := Lib.hid (fun u hb => by have := hca u (stay_bel hb); simpa using this)
         obtain ⟨so1, hso1⟩ : ∃ b, b = soleT (treeN s n fr) x.vm := ⟨_, rfl⟩
         rw [← hso1] at HT HANS
         subst hl1
         clear hso1 ht hca hta hnm htm HS1 HLN HKS HTR HFI HOI HFR HSR g2
         go_enter Tryz.func104, Tryz.ntmps104
         go_wp2_with (first
          | (go_at_call 38; refine (HN.out _ HBX.out.b3_bel).mono ?_; rintro e w1 ⟨rfl, hb⟩; replace HBX := Lib.hid (bx3_step HBX.out hb); obtain ⟨r0, r1, r2, r3, r4, r5, r6⟩ := HK.out _ HBX.out; clear hb)
          | (go_at_call 133; refine (HMAY.out _ HBX.out.b3_bel).mono ?_; rintro e w2 ⟨rfl, hb⟩; replace HBX := Lib.hid (bx3_step HBX.out hb); obtain ⟨r0, r1, r2, r3, r4, r5, r6⟩ := HK.out _ HBX.out; clear hb)
          | (go_at_call 134; refine (HVS.out _ HBX.out.b3_bel).mono ?_; rintro e w3 ⟨rfl, hb⟩; replace HBX := Lib.hid (bx3_step HBX.out hb); obtain ⟨r0, r1, r2, r3, r4, r5, r6⟩ := HK.out _ HBX.out; clear hb))
         have HBY := HBX
         replace HBX := Lib.hid (bx3_step HBX.out (drewN_under _ 1))
         go_region_held3 (fun u => u.cell? ⟨w.heap.size, 0, none⟩ = some (.slice A ne ca) ∧ u.cell? ⟨w.heap.size, 1, none⟩ = some (.slice A2 nm ca2) ∧ u.cell? ⟨w.heap.size + 1, 2, none⟩ = some (.int .i64 15) ∧ u.cell? ⟨w.heap.size + 1, 3, none⟩ = some (.string s3) ∧ u.cell? ⟨w.heap.size + 1 + 1, 0, none⟩ = some (.int .u64 0) ∧ u.cell? ⟨w.heap.size + 1 + 1, 1, none⟩ = some (.string so) ∧ u.cell? ⟨w.heap.size + 1 + 1, 2, none⟩ = some (.slice (some ⟨ga, oa, none⟩) 1 c1) ∧ u.cell? ⟨ga, oa, none⟩ = some (.slice C1 na cc1) ∧ u.cell? ⟨ga, oa + 1, none⟩ = some (.slice C2 nr cc2))
          (first | exact and7 (HK.out _ HBX.out) (HCA.out _ HBX.out.b3_bel) | exact and7 (HK.out _ HBY.out) (HCA.out _ HBY.out.b3_bel))
          (first
           | (go_at_call 28; refine (HT.out _ HBX.out.b3_bel).mono ?_; rintro e u1 ⟨rfl, hb⟩; replace HBX := Lib.hid (bx3_step HBX.out hb); clear hb))
         go_wp2
         go_ret
         refine ⟨?_, HBX.out.b3_bel⟩
         rw [HANS.out]
         first | rfl | (cases so1 <;> rfl)
        ·have hs0 : soleT (treeN s n fr) x.vm = false := soleT_not (by rw [← HLN.out]; exact hl1)
         rw [hs0] at HANS
         clear hs0 hl1
         go_enter Tryz.func104, Tryz.ntmps104
         go_wp2_with (first
          | (go_at_call 38; refine (HN.out _ HBX.out.b3_bel).mono ?_; rintro e w1 ⟨rfl, hb⟩; replace HBX := Lib.hid (bx3_step HBX.out hb); obtain ⟨r0, r1, r2, r3, r4, r5, r6⟩ := HK.out _ HBX.out; clear hb)
          | (go_at_call 133; refine (HMAY.out _ HBX.out.b3_bel).mono ?_; rintro e w2 ⟨rfl, hb⟩; replace HBX := Lib.hid (bx3_step HBX.out hb); obtain ⟨r0, r1, r2, r3, r4, r5, r6⟩ := HK.out _ HBX.out; clear hb)
          | (go_at_call 134; refine (HVS.out _ HBX.out.b3_bel).mono ?_; rintro e w3 ⟨rfl, hb⟩; replace HBX := Lib.hid (bx3_step HBX.out hb); obtain ⟨r0, r1, r2, r3, r4, r5, r6⟩ := HK.out _ HBX.out; clear hb))
         go_quiet (fail)
         go_wp2
         go_ret
         refine ⟨?_, (vbel HBX.out.b3_bel (drewN_under _ nq))⟩
         rw [HANS.out]
         first | rfl | (cases may <;> rfl) | (cases vd <;> rfl)
       ·clear hL1
        go_enter Tryz.func104, Tryz.ntmps104
        go_wp2_with (first
         | (go_at_call 38; refine (HN.out _ HBX.out.b3_bel).mono ?_; rintro e w1 ⟨rfl, hb⟩; replace HBX := Lib.hid (bx3_step HBX.out hb); obtain ⟨r0, r1, r2, r3, r4, r5, r6⟩ := HK.out _ HBX.out; clear hb)
         | (go_at_call 133; refine (HMAY.out _ HBX.out.b3_bel).mono ?_; rintro e w2 ⟨rfl, hb⟩; replace HBX := Lib.hid (bx3_step HBX.out hb); obtain ⟨r0, r1, r2, r3, r4, r5, r6⟩ := HK.out _ HBX.out; clear hb)
         | (go_at_call 134; refine (HVS.out _ HBX.out.b3_bel).mono ?_; rintro e w3 ⟨rfl, hb⟩; replace HBX := Lib.hid (bx3_step HBX.out hb); obtain ⟨r0, r1, r2, r3, r4, r5, r6⟩ := HK.out _ HBX.out; clear hb))
        go_quiet (fail)
        go_wp2
        go_ret
        refine ⟨?_, (vbel HBX.out.b3_bel (drewN_under _ nq))⟩
        rw [HANS.out]
        first | rfl | (cases may <;> rfl) | (cases vd <;> rfl)
      ·clear hL1 hso
       go_enter Tryz.func104, Tryz.ntmps104
       go_wp2_with (first
        | (go_at_call 38; refine (HN.out _ HBX.out.b3_bel).mono ?_; rintro e w1 ⟨rfl, hb⟩; replace HBX := Lib.hid (bx3_step HBX.out hb); obtain ⟨r0, r1, r2, r3, r4, r5, r6⟩ := HK.out _ HBX.out; clear hb)
        | (go_at_call 133; refine (HMAY.out _ HBX.out.b3_bel).mono ?_; rintro e w2 ⟨rfl, hb⟩; replace HBX := Lib.hid (bx3_step HBX.out hb); obtain ⟨r0, r1, r2, r3, r4, r5, r6⟩ := HK.out _ HBX.out; clear hb)
        | (go_at_call 134; refine (HVS.out _ HBX.out.b3_bel).mono ?_; rintro e w3 ⟨rfl, hb⟩; replace HBX := Lib.hid (bx3_step HBX.out hb); obtain ⟨r0, r1, r2, r3, r4, r5, r6⟩ := HK.out _ HBX.out; clear hb))
       go_quiet (fail)
       go_wp2
       go_ret
       refine ⟨?_, (vbel HBX.out.b3_bel (drewN_under _ nq))⟩
       rw [HANS.out]
       first | rfl | (cases may <;> rfl) | (cases vd <;> rfl)
     ·have e15 : (ty == 15) = false := beq_false_of_ne h15
      have HANS := Lib.hid (W5.out rfl h12 h13 h15)
      clear W4 W5 hso hvn hL1 hnb
      go_enter Tryz.func104, Tryz.ntmps104
      go_wp2_with (first
       | (go_at_call 38; refine (HN.out _ HBX.out.b3_bel).mono ?_; rintro e w1 ⟨rfl, hb⟩; replace HBX := Lib.hid (bx3_step HBX.out hb); obtain ⟨r0, r1, r2, r3, r4, r5, r6⟩ := HK.out _ HBX.out; clear hb)
       | (go_at_call 133; refine (HMAY.out _ HBX.out.b3_bel).mono ?_; rintro e w2 ⟨rfl, hb⟩; replace HBX := Lib.hid (bx3_step HBX.out hb); obtain ⟨r0, r1, r2, r3, r4, r5, r6⟩ := HK.out _ HBX.out; clear hb)
       | (go_at_call 134; refine (HVS.out _ HBX.out.b3_bel).mono ?_; rintro e w3 ⟨rfl, hb⟩; replace HBX := Lib.hid (bx3_step HBX.out hb); obtain ⟨r0, r1, r2, r3, r4, r5, r6⟩ := HK.out _ HBX.out; clear hb))
      go_ret
      refine ⟨?_, HBX.out.b3_bel⟩
      rw [HANS.out]
      first | rfl | (cases may <;> rfl) | (cases vd <;> rfl)
end Go.Proofs.YtloheacncefkgaaGreatDoor

/- The program's layer 20: which slots are a field's, the trees within being asked. Conditions: those that each theorem names. -/
namespace Go.Proofs.YtloheacncefkgaaGreatDoor
open Go.RowKit
set_option linter.unusedVariables false
set_option maxRecDepth 100000

def gAt {α : Type} (p : α → Bool) (l : List α) (i : Nat) : Bool := ((l[i]?).map p).getD true
theorem gAt_some {α : Type} {p : α → Bool} {l : List α} {i : Nat} {x : α} (h : l[i]? = some x) : gAt p l i = p x := by unfold gAt; rw [h]; rfl
theorem gAt_no {α : Type} {p : α → Bool} {l : List α} {i : Nat} (hi : i < l.length) (h : gAt p l i = false) : l.all p = false := by
 rw [gAt_some (List.getElem?_eq_getElem hi)] at h
 rw [List.all_eq_false]
 exact ⟨l[i], List.getElem_mem hi, by rw [h]; simp⟩
theorem gAt_yes {α : Type} {p : α → Bool} {l : List α} (h : ∀ i, i < l.length → gAt p l i = true) : l.all p = true := by
 rw [List.all_eq_true]
 intro x hx
 obtain ⟨i, hi, e⟩ := List.mem_iff_getElem.mp hx
 have := h i hi
 rw [gAt_some (List.getElem?_eq_getElem hi), e] at this
 exact this
set_option maxHeartbeats 4000000 in
theorem pveach_any {s : Sc} {n : Nat} {SS : Nat → Nat → Prop} {S : Nat → Prop} (H : ∀ k, n = k + 1 → PTree s k) (w : World) (env : VdEnv w) {A A2 : Option Addr} {ne ca nm ca2 : Nat} (h : ScAt SS w A ne ca A2 nm ca2 s) (f : Fd) (x : Va) {A1 : Option Addr} {c1 : Nat} (hk : KsAt S n w A1 c1 x.vm)
 (hf : x.vs.length ≤ 100000 ∧ x.vm.length ≤ 1000 ∧ ∀ u ∈ x.vm, FitN n u) (ho : x.vn < 18446744073709551616 ∧ ∀ u ∈ x.vm, OkN n u) (ps pf : Nat) (hps : w.heap[ps]? = some (.cells #[.slice A ne ca, .slice A2 nm ca2] 25 (0, 0))) (hpf : w.heap[pf]? = some (.cells #[.string (strOf f.name), .int .i64 f.num, .int .i64 f.ty, .string (strOf f.ref), .bool f.rep, .bool f.loose, .string (strOf f.one)] 44 (0, 0))) :
 Calls Tryz.prog 103 #[.agg #[.int .u64 (x.vn : Int), .string (strOf x.vs), .slice A1 x.vm.length c1], .pointer (some ⟨ps, 0, none⟩), .pointer (some ⟨pf, 0, none⟩)] w fun e w' => e = .returned (.bool (eachV (treeN s n) f x)) ∧ Below w.heap.size w w' := by
 have HE : Hid (eachV (treeN s n) f x = (valT (treeN s n) f x && !(hiddenT f && zeroT x))) := Lib.hid rfl
 have HV := Lib.hid (fun u (hb : Below w.heap.size w u) => pvval_any H u (env.rolls hb) (scAt_bel h hb) f x (ksAt_bel hk hb) hf ho)
 have HH := Lib.hid (fun u => fphidden_any f u)
 have HZ := Lib.hid (fun u => pvzero_any x A1 x.vm.length c1 u)
 have HBX := Lib.hid (bx_start w #[.int .u64 (x.vn : Int), .string (strOf x.vs), .slice A1 x.vm.length c1] 64)
 have HK : Hid (∀ u, Bx w u (.cells #[.int .u64 (x.vn : Int), .string (strOf x.vs), .slice A1 x.vm.length c1] 64 (0, 0)) → (u.cell? ⟨ps, 0, none⟩ = some (.slice A ne ca) ∧ u.cell? ⟨ps, 1, none⟩ = some (.slice A2 nm ca2)) ∧ (u.cell? ⟨pf, 0, none⟩ = some (.string (strOf f.name)) ∧ u.cell? ⟨pf, 1, none⟩ = some (.int .i64 f.num) ∧ u.cell? ⟨pf, 2, none⟩ = some (.int .i64 f.ty) ∧ u.cell? ⟨pf, 3, none⟩ = some (.string (strOf f.ref)) ∧ u.cell? ⟨pf, 4, none⟩ = some (.bool f.rep) ∧ u.cell? ⟨pf, 5, none⟩ = some (.bool f.loose) ∧ u.cell? ⟨pf, 6, none⟩ = some (.string (strOf f.one))) ∧ (u.cell? ⟨w.heap.size, 0, none⟩ = some (.int .u64 (x.vn : Int)) ∧ u.cell? ⟨w.heap.size, 1, none⟩ = some (.string (strOf x.vs)) ∧ u.cell? ⟨w.heap.size, 2, none⟩ = some (.slice A1 x.vm.length c1))) := Lib.hid (fun u hu => by
  have e1 := (hu.b_bel.block _ (lt_of_block hps)).trans hps
  have e2 := (hu.b_bel.block _ (lt_of_block hpf)).trans hpf
  exact ⟨⟨obj_cell e1 0, obj_cell e1 1⟩, ⟨obj_cell e2 0, obj_cell e2 1, obj_cell e2 2, obj_cell e2 3, obj_cell e2 4, obj_cell e2 5, obj_cell e2 6⟩, obj_cell hu.b_blk 0, obj_cell hu.b_blk 1, obj_cell hu.b_blk 2⟩)
 unfold fdV at HV HH
 generalize valT (treeN s n) f x = vb at *
 generalize hiddenT f = hb0 at *
 generalize zeroT x = zb at *
 generalize eachV (treeN s n) f x = ANS at *
 clear H env h hk hf ho hps hpf
 generalize x.vm.length = ln at *
 generalize strOf x.vs = so at *
 generalize (x.vn : Int) = zn at *
 generalize strOf f.name = s0 at *
 generalize strOf f.ref = s3 at *
 generalize strOf f.one = s6 at *
 generalize f.num = z1 at *
 generalize f.ty = z2 at *
 generalize f.rep = b4 at *
 generalize f.loose = b5 at *
 obtain ⟨⟨r0, r1⟩, ⟨p0, p1, p2, p3, p4, p5, p6⟩, v0, v1, v2⟩ := HK.out _ HBX.out
 cases vb with
 | false =>
   clear HH HZ
   go_enter Tryz.func103, Tryz.ntmps103
   go_wp2_with (go_at_call 104; refine (HV.out _ HBX.out.b_bel).mono ?_; rintro e w1 ⟨rfl, hb⟩; replace HBX := Lib.hid (bx_step HBX.out hb); clear hb)
   go_ret
   refine ⟨?_, HBX.out.b_bel⟩
   rw [HE.out]
   rfl
 | true =>
   cases hb0 with
   | false =>
     clear HZ
     go_enter Tryz.func103, Tryz.ntmps103
     go_wp2_with (first
      | (go_at_call 104; refine (HV.out _ HBX.out.b_bel).mono ?_; rintro e w1 ⟨rfl, hb⟩; replace HBX := Lib.hid (bx_step HBX.out hb); obtain ⟨⟨r0, r1⟩, ⟨p0, p1, p2, p3, p4, p5, p6⟩, v0, v1, v2⟩ := HK.out _ HBX.out; clear hb)
      | (go_at_call 105; refine (HH.out _).mono ?_; rintro e w2 ⟨rfl, hb⟩; replace HBX := Lib.hid (bx_step HBX.out hb); clear hb))
     go_ret
     refine ⟨?_, HBX.out.b_bel⟩
     rw [HE.out]
     rfl
   | true =>
     go_enter Tryz.func103, Tryz.ntmps103
     go_wp2_with (first
      | (go_at_call 104; refine (HV.out _ HBX.out.b_bel).mono ?_; rintro e w1 ⟨rfl, hb⟩; replace HBX := Lib.hid (bx_step HBX.out hb); obtain ⟨⟨r0, r1⟩, ⟨p0, p1, p2, p3, p4, p5, p6⟩, v0, v1, v2⟩ := HK.out _ HBX.out; clear hb)
      | (go_at_call 105; refine (HH.out _).mono ?_; rintro e w2 ⟨rfl, hb⟩; replace HBX := Lib.hid (bx_step HBX.out hb); obtain ⟨⟨r0, r1⟩, ⟨p0, p1, p2, p3, p4, p5, p6⟩, v0, v1, v2⟩ := HK.out _ HBX.out; clear hb)
      | (go_at_call 106; refine (HZ.out _).mono ?_; rintro e w3 ⟨rfl, hb⟩; replace HBX := Lib.hid (bx_step HBX.out hb); clear hb))
     go_ret
     refine ⟨?_, HBX.out.b_bel⟩
     rw [HE.out]
     rfl
theorem many_ways (rep : Bool) (n : Nat) : (n = 1) ∨ (¬ n = 1 ∧ ((n : Int) == 1) = false ∧ ¬ (n : Int) = 1 ∧ rep = false) ∨ (¬ n = 1 ∧ ((n : Int) == 1) = false ∧ ¬ (n : Int) = 1 ∧ rep = true ∧ decide (1 < n) = true ∧ decide (1 < (n : Int)) = true) ∨ (¬ n = 1 ∧ ((n : Int) == 1) = false ∧ ¬ (n : Int) = 1 ∧ rep = true ∧ decide (1 < n) = false ∧ decide (1 < (n : Int)) = false) := by
 by_cases h : n = 1
 ·exact .inl h
 have h1 : ((n : Int) == 1) = false := beq_false_of_ne (by omega)
 have h2 : ¬ (n : Int) = 1 := by omega
 cases rep with
 | false => exact .inr (.inl ⟨h, h1, h2, rfl⟩)
 | true =>
   by_cases h3 : 1 < n
   ·exact .inr (.inr (.inl ⟨h, h1, h2, rfl, decide_eq_true h3, decide_eq_true (by omega)⟩))
   ·exact .inr (.inr (.inr ⟨h, h1, h2, rfl, decide_eq_false h3, decide_eq_false (by omega)⟩))

set_option maxHeartbeats 4000000 in
theorem pvslotf_any {s : Sc} {n : Nat} {SS : Nat → Nat → Prop} {S : Nat → Prop} (H : ∀ k, n = k + 1 → PTree s k) (w : World) (env : VdEnv w) {A A2 : Option Addr} {ne ca nm ca2 : Nat} (h : ScAt SS w A ne ca A2 nm ca2 s) (f : Fd) (x : Slt) {A1 : Option Addr} {c1 : Nat} (hv : VsAt S n w A1 c1 x.svals) (hf : FitS n x) (ho : BitS n x) :
 Calls Tryz.prog 61 #[.agg #[.slice A ne ca, .slice A2 nm ca2], fdV f, .agg #[.int .i64 x.snum, .slice A1 x.svals.length c1]] w fun e w' => e = .returned (.bool (slotF (treeN s n) f x)) ∧ Below w.heap.size w w' := by
 have q1 := hv.l_le
 have q2 := hv.l_max
 unfold maxLen at q2
 have HE : Hid (slotF (treeN s n) f x = (manyS f x.svals.length && x.svals.all (eachV (treeN s n) f))) := Lib.hid rfl
 unfold manyS at HE
 have HALL : Hid (∀ u, Bx3 w u (.cells #[.slice A ne ca, .slice A2 nm ca2] 25 (0, 0)) (.cells #[.string (strOf f.name), .int .i64 f.num, .int .i64 f.ty, .string (strOf f.ref), .bool f.rep, .bool f.loose, .string (strOf f.one)] 44 (0, 0)) (.cells #[.int .i64 x.snum, .slice A1 x.svals.length c1] 67 (0, 0)) →
  Calls Tryz.prog 107 #[.slice A1 x.svals.length c1, .func (.func 103) #[] #[.pointer (some ⟨w.heap.size, 0, none⟩), .pointer (some ⟨w.heap.size + 1, 0, none⟩)]] u fun e w' => e = .returned (.bool (x.svals.all (eachV (treeN s n) f))) ∧ Touch (fun _ => False) u w') := Lib.hid (fun u hu =>
  vall_va u (vsAt_bel hv hu.b3_bel) rfl 103 _ (fun _ _ => rfl) (fun _ => False) (fun _ _ h => h) (fun _ h => h.elim) (fun _ _ => True) (fun _ _ _ _ _ => trivial) trivial (gAt (eachV (treeN s n) f) x.svals) _ (fun i hi hg => gAt_no hi hg) (fun hg => gAt_yes hg)
   (fun i v hx _ wr B1 d1 ht _ hkv => by
    have hm := List.mem_of_getElem? hx
    have hq := bx3_step hu (touch_pure ht)
    rw [gAt_some hx]
    refine (pveach_any H wr (env.rolls hq.b3_bel) (scAt_bel h hq.b3_bel) f v hkv (hf.2 v hm) (ho v hm) _ _ hq.b3_one hq.b3_two).mono ?_
    rintro e w' ⟨he, hb⟩
    exact ⟨he, pure_touch hb, fun _ => trivial⟩))
 have HBX := Lib.hid (bx3_start w #[.slice A ne ca, .slice A2 nm ca2] #[.string (strOf f.name), .int .i64 f.num, .int .i64 f.ty, .string (strOf f.ref), .bool f.rep, .bool f.loose, .string (strOf f.one)] #[.int .i64 x.snum, .slice A1 x.svals.length c1] 25 44 67)
 have r4 := obj_cell HBX.out.b3_two 4
 have r5 := obj_cell HBX.out.b3_thr 1
 unfold fdV
 generalize slotF (treeN s n) f x = ANS at *
 generalize x.svals.all (eachV (treeN s n) f) = al at *
 clear H env h hv hf ho
 have hmw := many_ways f.rep x.svals.length
 generalize x.svals.length = ln at *
 generalize x.snum = zn at *
 generalize strOf f.name = s0 at *
 generalize strOf f.ref = s3 at *
 generalize strOf f.one = s6 at *
 generalize f.num = z1 at *
 generalize f.ty = z2 at *
 generalize f.rep = b4 at *
 generalize f.loose = b5 at *
 rcases hmw with rfl | ⟨g0, g1, g2, rfl⟩ | ⟨g0, g1, g2, rfl, g3, g4⟩ | ⟨g0, g1, g2, rfl, g3, g4⟩
 ·go_enter Tryz.func61, Tryz.ntmps61
  go_wp2_with (go_at_call 107; refine (HALL.out _ HBX.out).mono ?_; rintro e w1 ⟨rfl, hb⟩; have HB1 := Lib.hid (vbel HBX.out.b3_bel (touch_pure hb)); clear hb)
  go_ret
  refine ⟨?_, HB1.out⟩
  rw [HE.out]
  cases al <;> rfl
 ·rw [decide_eq_false g0] at HE
  go_enter Tryz.func61, Tryz.ntmps61
  go_wp2
  go_ret
  refine ⟨?_, HBX.out.b3_bel⟩
  rw [HE.out]
  rfl
 ·rw [decide_eq_false g0, g3] at HE
  go_enter Tryz.func61, Tryz.ntmps61
  go_wp2_with (go_at_call 107; refine (HALL.out _ HBX.out).mono ?_; rintro e w1 ⟨rfl, hb⟩; have HB1 := Lib.hid (vbel HBX.out.b3_bel (touch_pure hb)); clear hb)
  go_ret
  refine ⟨?_, HB1.out⟩
  rw [HE.out]
  cases al <;> rfl
 ·rw [decide_eq_false g0, g3] at HE
  go_enter Tryz.func61, Tryz.ntmps61
  go_wp2
  go_ret
  refine ⟨?_, HBX.out.b3_bel⟩
  rw [HE.out]
  rfl
end Go.Proofs.YtloheacncefkgaaGreatDoor
