/- Several texts in one: RdV. What each proves, and its conditions, stands at its own head. -/
import Derived.Test.YtmdekdmcnnbofaaDoorPkVD38
import Derived.Test.YtmdekdmcnnbofaaDoorPkVD21
import Derived.Test.YtmdekdmcnnbofaaDoorPkVD14
import Derived.Test.YtmdekdmcnnbofaaDoorPkVD20
import Derived.Test.YtmdekdmcnnbofaaDoorPkVD22
import Derived.Deep.RegionHeld3
/- The document's layer 20: which values are a field's, the trees within being asked. Conditions: those that each theorem names. -/
namespace Go.Proofs.YtmdekdmcnnbofaaDoor
open Go.RowKit
set_option linter.unusedVariables false
set_option maxRecDepth 100000

theorem calls_same {f : FuncId} {args : Array Value} {u : World} {x : Ending} (h : Calls Tryd.prog f args u fun e w' => e = x ∧ u = w') : Calls Tryd.prog f args u fun e w' => e = x ∧ Below u.heap.size u w' :=
  h.mono fun e w' ⟨he, hw⟩ => ⟨he, by rw [← hw]; exact Below.refl _ _⟩
def RTree (s : Sc) (n : Nat) : Prop := ∀ (SS : Nat → Nat → Prop) (S : Nat → Prop) (w : World) (A : Option Addr) (ne ca : Nat) (A2 : Option Addr) (nm ca2 : Nat) (name : List UInt8) (B : Option Addr) (na cb : Nat) (B2 : Option Addr) (nr cr : Nat) (x : Tr),
  U8Env w → ScAt SS w A ne ca A2 nm ca2 s → TrAt S n w B na cb B2 nr cr x → FitN (n + 1) x → OkN (n + 1) x →
  Calls Tryd.prog 10 #[.agg #[.slice A ne ca, .slice A2 nm ca2], .string (strOf name), .agg #[.slice B na cb, .slice B2 nr cr]] w fun e w' => e = .returned (.bool (treeN s (n + 1) name x)) ∧ Below w.heap.size w w'
set_option maxHeartbeats 16000000 in
theorem rvval_any {s : Sc} {n : Nat} {SS : Nat → Nat → Prop} {S : Nat → Prop} (H : ∀ k, n = k + 1 → RTree s k) (w : World) (env : U8Env w) {A A2 : Option Addr} {ne ca nm ca2 : Nat} (h : ScAt SS w A ne ca A2 nm ca2 s) (f : Fd) (x : Va) {A1 : Option Addr} {c1 : Nat} (hk : KsAt S n w A1 c1 x.vm)
    (hf : x.vs.length ≤ 100000 ∧ x.vm.length ≤ 1000 ∧ ∀ u ∈ x.vm, FitN n u) (ho : x.vn < 18446744073709551616 ∧ ∀ u ∈ x.vm, OkN n u) :
    Calls Tryd.prog 12 #[.agg #[.slice A ne ca, .slice A2 nm ca2], fdV f, .agg #[.int .u64 (x.vn : Int), .string (strOf x.vs), .slice A1 x.vm.length c1]] w fun e w' => e = .returned (.bool (valT (treeN s n) f x)) ∧ Below w.heap.size w w' := by
  have q1 := hk.l_le
  have q2 := hk.l_max
  unfold maxLen at q2
  have HN := Lib.hid (fun u (hb : Below w.heap.size w u) => calls_same (rsnumber_any f.ty u))
  have HMAY := Lib.hid (fun u (hb : Below w.heap.size w u) => calls_same (rsmay_any f.ty x.vn u ho.1))
  have HVS := Lib.hid (fun u (hb : Below w.heap.size w u) => pvalid_any x.vs (by omega) u (env.goesOn hb))
  have HTR := Lib.hid (fun k (hk : n = k + 1) u (hb : Below w.heap.size w u) name B na cb B2 nr cr t (ht : TrAt S k u B na cb B2 nr cr t) (h1 : FitN (k + 1) t) (h2 : OkN (k + 1) t) => H k hk SS S u A ne ca A2 nm ca2 name B na cb B2 nr cr t (env.goesOn hb) (scAt_bel h hb) ht h1 h2)
  have HKS := Lib.hid hk
  have HFI := Lib.hid hf
  have HOI := Lib.hid ho
  have hso := txt_ways x.vs
  have hvn := num_ways x.vn
  have hL0 := num_ways x.vm.length
  have hL1 := one_ways x.vm.length
  have HO : Hid (valT (treeN s n) f x = valT (treeN s n) f x) := Lib.hid rfl
  have W1 := Lib.hid (fun h => val_num (V := treeN s n) (f := f) (v := x) h)
  have W2 := Lib.hid (fun h => val_12 (V := treeN s n) (f := f) (v := x) h)
  have W3 := Lib.hid (fun h => val_13 (V := treeN s n) (f := f) (v := x) h)
  have W4 := Lib.hid (fun h => val_15 (V := treeN s n) (f := f) (v := x) h)
  have W5 := Lib.hid (fun h => val_no (V := treeN s n) (f := f) (v := x) h)
  obtain ⟨may, hmay⟩ : ∃ b, b = mayT f.ty x.vn := ⟨_, rfl⟩
  obtain ⟨vd, hvd⟩ : ∃ b, b = Lib.validD x.vs := ⟨_, rfl⟩
  obtain ⟨nb, hnb⟩ : ∃ b, b = numberT f.ty := ⟨_, rfl⟩
  rw [← hmay] at HMAY W1
  rw [← hvd] at HVS W2
  rw [← hnb] at HN W1 W5
  obtain ⟨ANS, hans⟩ : ∃ b, b = valT (treeN s n) f x := ⟨_, rfl⟩
  rw [← hans] at W1 W2 W3 W4 W5 ⊢
  clear env h hk hf ho HO hmay hvd hans
  unfold fdV
  obtain ⟨ty, hty⟩ : ∃ z, z = f.ty := ⟨_, rfl⟩
  obtain ⟨fr, hfr⟩ : ∃ z, z = f.ref := ⟨_, rfl⟩
  obtain ⟨ln, hln⟩ : ∃ z, z = x.vm.length := ⟨_, rfl⟩
  have HLN := Lib.hid hln
  have HFR := Lib.hid hfr
  rw [← hty] at HN HMAY W2 W3 W4 W5 hnb ⊢
  rw [← hfr] at W4 ⊢
  rw [← hln] at q1 hL0 hL1 W1 W2 W3 ⊢
  obtain ⟨ov, hov⟩ : ∃ b, b = decide (x.vn = 0) := ⟨_, rfl⟩
  obtain ⟨os, hos⟩ : ∃ b, b = decide (x.vs = []) := ⟨_, rfl⟩
  obtain ⟨ol, hol⟩ : ∃ b, b = decide (ln = 0) := ⟨_, rfl⟩
  rw [← hov] at hvn W2 W3 W4
  rw [← hos] at hso W1 W4
  rw [← hol] at hL0 W1 W2 W3
  clear hty hfr hln hov hos hol
  have hsz : (strOf fr).size = (strOf fr).size := rfl
  generalize hvv : x.vs = vs0 at *
  generalize x.vn = vn at *
  generalize strOf vs0 = so at *
  have HBX := Lib.hid (bx3_start w #[.slice A ne ca, .slice A2 nm ca2] #[.string (strOf f.name), .int .i64 f.num, .int .i64 ty, .string (strOf fr), .bool f.rep, .bool f.loose, .string (strOf f.one)] #[.int .u64 (vn : Int), .string so, .slice A1 ln c1] 25 35 39)
  generalize strOf f.name = s0 at *
  generalize hsr : strOf fr = s3 at *
  generalize strOf f.one = s6 at *
  generalize f.num = z1 at *
  generalize f.rep = b4 at *
  generalize f.loose = b5 at *
  have HSR := Lib.hid hsr
  have HK : Hid (∀ u, Bx3 w u (.cells #[.slice A ne ca, .slice A2 nm ca2] 25 (0, 0)) (.cells #[.string s0, .int .i64 z1, .int .i64 ty, .string s3, .bool b4, .bool b5, .string s6] 35 (0, 0)) (.cells #[.int .u64 (vn : Int), .string so, .slice A1 ln c1] 39 (0, 0)) → u.cell? ⟨w.heap.size, 0, none⟩ = some (.slice A ne ca) ∧ u.cell? ⟨w.heap.size, 1, none⟩ = some (.slice A2 nm ca2) ∧ u.cell? ⟨w.heap.size + 1, 2, none⟩ = some (.int .i64 ty) ∧ u.cell? ⟨w.heap.size + 1, 3, none⟩ = some (.string s3) ∧ u.cell? ⟨w.heap.size + 1 + 1, 0, none⟩ = some (.int .u64 (vn : Int)) ∧ u.cell? ⟨w.heap.size + 1 + 1, 1, none⟩ = some (.string so) ∧ u.cell? ⟨w.heap.size + 1 + 1, 2, none⟩ = some (.slice A1 ln c1)) := Lib.hid (fun u hu => ⟨obj_cell hu.b3_one 0, obj_cell hu.b3_one 1, obj_cell hu.b3_two 2, obj_cell hu.b3_two 3, obj_cell hu.b3_thr 0, obj_cell hu.b3_thr 1, obj_cell hu.b3_thr 2⟩)
  obtain ⟨r0, r1, r2, r3, r4, r5, r6⟩ := HK.out _ HBX.out
  clear hsr hsz hvv
  cases nb with
  | true =>
    have HANS := Lib.hid (W1.out rfl)
    clear W1 W2 W3 W4 W5 hvn hL1 HVS hnb
    cases may with
    | false =>
      clear hso hL0
      go_enter Tryd.func12, Tryd.ntmps12
      go_wp2_with (first
        | (go_at_call 34; refine (HN.out _ HBX.out.b3_bel).mono ?_; rintro e w1 ⟨rfl, hb⟩; replace HBX := Lib.hid (bx3_step HBX.out hb); obtain ⟨r0, r1, r2, r3, r4, r5, r6⟩ := HK.out _ HBX.out; clear hb)
        | (go_at_call 35; refine (HMAY.out _ HBX.out.b3_bel).mono ?_; rintro e w2 ⟨rfl, hb⟩; replace HBX := Lib.hid (bx3_step HBX.out hb); obtain ⟨r0, r1, r2, r3, r4, r5, r6⟩ := HK.out _ HBX.out; clear hb)
        | (go_at_call 33; refine (HVS.out _ HBX.out.b3_bel).mono ?_; rintro e w3 ⟨rfl, hb⟩; replace HBX := Lib.hid (bx3_step HBX.out hb); obtain ⟨r0, r1, r2, r3, r4, r5, r6⟩ := HK.out _ HBX.out; clear hb))
      go_ret
      refine ⟨?_, HBX.out.b3_bel⟩
      rw [HANS.out]
      first | rfl | (cases may <;> rfl) | (cases vd <;> rfl)
    | true =>
      rcases hso with ⟨rfl, s1, s2⟩ | ⟨rfl, s1, s2⟩
      · rcases hL0 with ⟨rfl, rfl, g2⟩ | ⟨rfl, g1, g2⟩
        · clear g2
          go_enter Tryd.func12, Tryd.ntmps12
          go_wp2_with (first
            | (go_at_call 34; refine (HN.out _ HBX.out.b3_bel).mono ?_; rintro e w1 ⟨rfl, hb⟩; replace HBX := Lib.hid (bx3_step HBX.out hb); obtain ⟨r0, r1, r2, r3, r4, r5, r6⟩ := HK.out _ HBX.out; clear hb)
            | (go_at_call 35; refine (HMAY.out _ HBX.out.b3_bel).mono ?_; rintro e w2 ⟨rfl, hb⟩; replace HBX := Lib.hid (bx3_step HBX.out hb); obtain ⟨r0, r1, r2, r3, r4, r5, r6⟩ := HK.out _ HBX.out; clear hb)
            | (go_at_call 33; refine (HVS.out _ HBX.out.b3_bel).mono ?_; rintro e w3 ⟨rfl, hb⟩; replace HBX := Lib.hid (bx3_step HBX.out hb); obtain ⟨r0, r1, r2, r3, r4, r5, r6⟩ := HK.out _ HBX.out; clear hb))
          go_ret
          refine ⟨?_, HBX.out.b3_bel⟩
          rw [HANS.out]
          first | rfl | (cases may <;> rfl) | (cases vd <;> rfl)
        · skip
          go_enter Tryd.func12, Tryd.ntmps12
          go_wp2_with (first
            | (go_at_call 34; refine (HN.out _ HBX.out.b3_bel).mono ?_; rintro e w1 ⟨rfl, hb⟩; replace HBX := Lib.hid (bx3_step HBX.out hb); obtain ⟨r0, r1, r2, r3, r4, r5, r6⟩ := HK.out _ HBX.out; clear hb)
            | (go_at_call 35; refine (HMAY.out _ HBX.out.b3_bel).mono ?_; rintro e w2 ⟨rfl, hb⟩; replace HBX := Lib.hid (bx3_step HBX.out hb); obtain ⟨r0, r1, r2, r3, r4, r5, r6⟩ := HK.out _ HBX.out; clear hb)
            | (go_at_call 33; refine (HVS.out _ HBX.out.b3_bel).mono ?_; rintro e w3 ⟨rfl, hb⟩; replace HBX := Lib.hid (bx3_step HBX.out hb); obtain ⟨r0, r1, r2, r3, r4, r5, r6⟩ := HK.out _ HBX.out; clear hb))
          go_ret
          refine ⟨?_, HBX.out.b3_bel⟩
          rw [HANS.out]
          first | rfl | (cases may <;> rfl) | (cases vd <;> rfl)
      · clear hL0
        go_enter Tryd.func12, Tryd.ntmps12
        go_wp2_with (first
          | (go_at_call 34; refine (HN.out _ HBX.out.b3_bel).mono ?_; rintro e w1 ⟨rfl, hb⟩; replace HBX := Lib.hid (bx3_step HBX.out hb); obtain ⟨r0, r1, r2, r3, r4, r5, r6⟩ := HK.out _ HBX.out; clear hb)
          | (go_at_call 35; refine (HMAY.out _ HBX.out.b3_bel).mono ?_; rintro e w2 ⟨rfl, hb⟩; replace HBX := Lib.hid (bx3_step HBX.out hb); obtain ⟨r0, r1, r2, r3, r4, r5, r6⟩ := HK.out _ HBX.out; clear hb)
          | (go_at_call 33; refine (HVS.out _ HBX.out.b3_bel).mono ?_; rintro e w3 ⟨rfl, hb⟩; replace HBX := Lib.hid (bx3_step HBX.out hb); obtain ⟨r0, r1, r2, r3, r4, r5, r6⟩ := HK.out _ HBX.out; clear hb))
        go_ret
        refine ⟨?_, HBX.out.b3_bel⟩
        rw [HANS.out]
        first | rfl | (cases may <;> rfl) | (cases vd <;> rfl)
  | false =>
    clear W1 HMAY
    by_cases h12 : ty = 12
    · subst h12
      have HANS := Lib.hid (W2.out rfl)
      clear W2 W3 W4 W5 hso hL1 hnb
      rcases hvn with ⟨rfl, rfl, g1⟩ | ⟨rfl, g0, g1⟩
      · clear g1
        rcases hL0 with ⟨rfl, rfl, g2⟩ | ⟨rfl, g1, g2⟩
        · clear g2
          go_enter Tryd.func12, Tryd.ntmps12
          go_wp2_with (first
            | (go_at_call 34; refine (HN.out _ HBX.out.b3_bel).mono ?_; rintro e w1 ⟨rfl, hb⟩; replace HBX := Lib.hid (bx3_step HBX.out hb); obtain ⟨r0, r1, r2, r3, r4, r5, r6⟩ := HK.out _ HBX.out; clear hb)
            | (go_at_call 35; refine (HMAY.out _ HBX.out.b3_bel).mono ?_; rintro e w2 ⟨rfl, hb⟩; replace HBX := Lib.hid (bx3_step HBX.out hb); obtain ⟨r0, r1, r2, r3, r4, r5, r6⟩ := HK.out _ HBX.out; clear hb)
            | (go_at_call 33; refine (HVS.out _ HBX.out.b3_bel).mono ?_; rintro e w3 ⟨rfl, hb⟩; replace HBX := Lib.hid (bx3_step HBX.out hb); obtain ⟨r0, r1, r2, r3, r4, r5, r6⟩ := HK.out _ HBX.out; clear hb))
          go_ret
          refine ⟨?_, HBX.out.b3_bel⟩
          rw [HANS.out]
          first | rfl | (cases may <;> rfl) | (cases vd <;> rfl)
        · clear HVS
          go_enter Tryd.func12, Tryd.ntmps12
          go_wp2_with (first
            | (go_at_call 34; refine (HN.out _ HBX.out.b3_bel).mono ?_; rintro e w1 ⟨rfl, hb⟩; replace HBX := Lib.hid (bx3_step HBX.out hb); obtain ⟨r0, r1, r2, r3, r4, r5, r6⟩ := HK.out _ HBX.out; clear hb)
            | (go_at_call 35; refine (HMAY.out _ HBX.out.b3_bel).mono ?_; rintro e w2 ⟨rfl, hb⟩; replace HBX := Lib.hid (bx3_step HBX.out hb); obtain ⟨r0, r1, r2, r3, r4, r5, r6⟩ := HK.out _ HBX.out; clear hb)
            | (go_at_call 33; refine (HVS.out _ HBX.out.b3_bel).mono ?_; rintro e w3 ⟨rfl, hb⟩; replace HBX := Lib.hid (bx3_step HBX.out hb); obtain ⟨r0, r1, r2, r3, r4, r5, r6⟩ := HK.out _ HBX.out; clear hb))
          go_ret
          refine ⟨?_, HBX.out.b3_bel⟩
          rw [HANS.out]
          first | rfl | (cases may <;> rfl) | (cases vd <;> rfl)
      · clear HVS hL0
        go_enter Tryd.func12, Tryd.ntmps12
        go_wp2_with (first
          | (go_at_call 34; refine (HN.out _ HBX.out.b3_bel).mono ?_; rintro e w1 ⟨rfl, hb⟩; replace HBX := Lib.hid (bx3_step HBX.out hb); obtain ⟨r0, r1, r2, r3, r4, r5, r6⟩ := HK.out _ HBX.out; clear hb)
          | (go_at_call 35; refine (HMAY.out _ HBX.out.b3_bel).mono ?_; rintro e w2 ⟨rfl, hb⟩; replace HBX := Lib.hid (bx3_step HBX.out hb); obtain ⟨r0, r1, r2, r3, r4, r5, r6⟩ := HK.out _ HBX.out; clear hb)
          | (go_at_call 33; refine (HVS.out _ HBX.out.b3_bel).mono ?_; rintro e w3 ⟨rfl, hb⟩; replace HBX := Lib.hid (bx3_step HBX.out hb); obtain ⟨r0, r1, r2, r3, r4, r5, r6⟩ := HK.out _ HBX.out; clear hb))
        go_ret
        refine ⟨?_, HBX.out.b3_bel⟩
        rw [HANS.out]
        first | rfl | (cases may <;> rfl) | (cases vd <;> rfl)
    · have e12 : (ty == 12) = false := beq_false_of_ne h12
      clear W2 HVS
      by_cases h13 : ty = 13
      · subst h13
        have HANS := Lib.hid (W3.out rfl)
        clear W3 W4 W5 hso hL1 hnb h12 e12
        rcases hvn with ⟨rfl, rfl, g1⟩ | ⟨rfl, g0, g1⟩
        · clear g1
          rcases hL0 with ⟨rfl, rfl, g2⟩ | ⟨rfl, g1, g2⟩
          · clear g2
            go_enter Tryd.func12, Tryd.ntmps12
            go_wp2_with (first
              | (go_at_call 34; refine (HN.out _ HBX.out.b3_bel).mono ?_; rintro e w1 ⟨rfl, hb⟩; replace HBX := Lib.hid (bx3_step HBX.out hb); obtain ⟨r0, r1, r2, r3, r4, r5, r6⟩ := HK.out _ HBX.out; clear hb)
              | (go_at_call 35; refine (HMAY.out _ HBX.out.b3_bel).mono ?_; rintro e w2 ⟨rfl, hb⟩; replace HBX := Lib.hid (bx3_step HBX.out hb); obtain ⟨r0, r1, r2, r3, r4, r5, r6⟩ := HK.out _ HBX.out; clear hb)
              | (go_at_call 33; refine (HVS.out _ HBX.out.b3_bel).mono ?_; rintro e w3 ⟨rfl, hb⟩; replace HBX := Lib.hid (bx3_step HBX.out hb); obtain ⟨r0, r1, r2, r3, r4, r5, r6⟩ := HK.out _ HBX.out; clear hb))
            go_ret
            refine ⟨?_, HBX.out.b3_bel⟩
            rw [HANS.out]
            first | rfl | (cases may <;> rfl) | (cases vd <;> rfl)
          · skip
            go_enter Tryd.func12, Tryd.ntmps12
            go_wp2_with (first
              | (go_at_call 34; refine (HN.out _ HBX.out.b3_bel).mono ?_; rintro e w1 ⟨rfl, hb⟩; replace HBX := Lib.hid (bx3_step HBX.out hb); obtain ⟨r0, r1, r2, r3, r4, r5, r6⟩ := HK.out _ HBX.out; clear hb)
              | (go_at_call 35; refine (HMAY.out _ HBX.out.b3_bel).mono ?_; rintro e w2 ⟨rfl, hb⟩; replace HBX := Lib.hid (bx3_step HBX.out hb); obtain ⟨r0, r1, r2, r3, r4, r5, r6⟩ := HK.out _ HBX.out; clear hb)
              | (go_at_call 33; refine (HVS.out _ HBX.out.b3_bel).mono ?_; rintro e w3 ⟨rfl, hb⟩; replace HBX := Lib.hid (bx3_step HBX.out hb); obtain ⟨r0, r1, r2, r3, r4, r5, r6⟩ := HK.out _ HBX.out; clear hb))
            go_ret
            refine ⟨?_, HBX.out.b3_bel⟩
            rw [HANS.out]
            first | rfl | (cases may <;> rfl) | (cases vd <;> rfl)
        · clear hL0
          go_enter Tryd.func12, Tryd.ntmps12
          go_wp2_with (first
            | (go_at_call 34; refine (HN.out _ HBX.out.b3_bel).mono ?_; rintro e w1 ⟨rfl, hb⟩; replace HBX := Lib.hid (bx3_step HBX.out hb); obtain ⟨r0, r1, r2, r3, r4, r5, r6⟩ := HK.out _ HBX.out; clear hb)
            | (go_at_call 35; refine (HMAY.out _ HBX.out.b3_bel).mono ?_; rintro e w2 ⟨rfl, hb⟩; replace HBX := Lib.hid (bx3_step HBX.out hb); obtain ⟨r0, r1, r2, r3, r4, r5, r6⟩ := HK.out _ HBX.out; clear hb)
            | (go_at_call 33; refine (HVS.out _ HBX.out.b3_bel).mono ?_; rintro e w3 ⟨rfl, hb⟩; replace HBX := Lib.hid (bx3_step HBX.out hb); obtain ⟨r0, r1, r2, r3, r4, r5, r6⟩ := HK.out _ HBX.out; clear hb))
          go_ret
          refine ⟨?_, HBX.out.b3_bel⟩
          rw [HANS.out]
          first | rfl | (cases may <;> rfl) | (cases vd <;> rfl)
      · have e13 : (ty == 13) = false := beq_false_of_ne h13
        clear W3 hL0
        by_cases h15 : ty = 15
        · subst h15
          have HANS := Lib.hid (W4.out rfl)
          clear W4 W5 hnb h12 e12 h13 e13
          rcases hvn with ⟨rfl, rfl, g1⟩ | ⟨rfl, g0, g1⟩
          · clear g1
            rcases hso with ⟨rfl, s1, s2⟩ | ⟨rfl, s1, s2⟩
            · rcases hL1 with ⟨hl1, g2⟩ | ⟨hl1, g1, g2⟩
              · obtain ⟨t, ht⟩ : ∃ t, x.vm[0]? = some t := ⟨_, List.getElem?_eq_getElem (by have := HLN.out; omega)⟩
                have HS1 := Lib.hid (soleT_one (V := treeN s n fr) (by rw [← HLN.out]; exact hl1) ht)
                obtain ⟨m, ga, oa, C1, na, cc1, C2, nr, cc2, hnm, rfl, _, hca, hta⟩ := kid_at HKS.out ht
                have htm := List.mem_of_getElem? ht
                have HT := Lib.hid (fun u (hb : Below w.heap.size w u) => HTR.out m hnm u hb fr _ _ _ _ _ _ t (trAt_bel hta hb) (by have := HFI.out.2.2 t htm; rw [hnm] at this; exact this) (by have := HOI.out.2 t htm; rw [hnm] at this; exact this))
                rw [← hnm, ← HS1.out, HSR.out] at HT
                have HCA : Hid (∀ u, Below w.heap.size w u → u.cell? ⟨ga, oa, none⟩ = some (.slice C1 na cc1) ∧ u.cell? ⟨ga, oa + 1, none⟩ = some (.slice C2 nr cc2)) := Lib.hid (fun u hb => by have := hca u (stay_bel hb); simpa using this)
                obtain ⟨so1, hso1⟩ : ∃ b, b = soleT (treeN s n fr) x.vm := ⟨_, rfl⟩
                rw [← hso1] at HT HANS
                subst hl1
                clear hso1 ht hca hta hnm htm HS1 HLN HKS HTR HFI HOI HFR HSR g2
                go_enter Tryd.func12, Tryd.ntmps12
                go_wp2_with (first
                  | (go_at_call 34; refine (HN.out _ HBX.out.b3_bel).mono ?_; rintro e w1 ⟨rfl, hb⟩; replace HBX := Lib.hid (bx3_step HBX.out hb); obtain ⟨r0, r1, r2, r3, r4, r5, r6⟩ := HK.out _ HBX.out; clear hb)
                  | (go_at_call 35; refine (HMAY.out _ HBX.out.b3_bel).mono ?_; rintro e w2 ⟨rfl, hb⟩; replace HBX := Lib.hid (bx3_step HBX.out hb); obtain ⟨r0, r1, r2, r3, r4, r5, r6⟩ := HK.out _ HBX.out; clear hb)
                  | (go_at_call 33; refine (HVS.out _ HBX.out.b3_bel).mono ?_; rintro e w3 ⟨rfl, hb⟩; replace HBX := Lib.hid (bx3_step HBX.out hb); obtain ⟨r0, r1, r2, r3, r4, r5, r6⟩ := HK.out _ HBX.out; clear hb))
                have HBY := HBX
                replace HBX := Lib.hid (bx3_step HBX.out (drewN_under _ 1))
                go_region_held3 (fun u => u.cell? ⟨w.heap.size, 0, none⟩ = some (.slice A ne ca) ∧ u.cell? ⟨w.heap.size, 1, none⟩ = some (.slice A2 nm ca2) ∧ u.cell? ⟨w.heap.size + 1, 2, none⟩ = some (.int .i64 15) ∧ u.cell? ⟨w.heap.size + 1, 3, none⟩ = some (.string s3) ∧ u.cell? ⟨w.heap.size + 1 + 1, 0, none⟩ = some (.int .u64 0) ∧ u.cell? ⟨w.heap.size + 1 + 1, 1, none⟩ = some (.string so) ∧ u.cell? ⟨w.heap.size + 1 + 1, 2, none⟩ = some (.slice (some ⟨ga, oa, none⟩) 1 c1) ∧ u.cell? ⟨ga, oa, none⟩ = some (.slice C1 na cc1) ∧ u.cell? ⟨ga, oa + 1, none⟩ = some (.slice C2 nr cc2))
                  (first | exact and7 (HK.out _ HBX.out) (HCA.out _ HBX.out.b3_bel) | exact and7 (HK.out _ HBY.out) (HCA.out _ HBY.out.b3_bel))
                  (first
                    | (go_at_call 10; refine (HT.out _ HBX.out.b3_bel).mono ?_; rintro e u1 ⟨rfl, hb⟩; replace HBX := Lib.hid (bx3_step HBX.out hb); clear hb))
                go_wp2
                go_ret
                refine ⟨?_, HBX.out.b3_bel⟩
                rw [HANS.out]
                first | rfl | (cases so1 <;> rfl)
              · have hs0 : soleT (treeN s n fr) x.vm = false := soleT_not (by rw [← HLN.out]; exact hl1)
                rw [hs0] at HANS
                clear hs0 hl1
                go_enter Tryd.func12, Tryd.ntmps12
                go_wp2_with (first
                  | (go_at_call 34; refine (HN.out _ HBX.out.b3_bel).mono ?_; rintro e w1 ⟨rfl, hb⟩; replace HBX := Lib.hid (bx3_step HBX.out hb); obtain ⟨r0, r1, r2, r3, r4, r5, r6⟩ := HK.out _ HBX.out; clear hb)
                  | (go_at_call 35; refine (HMAY.out _ HBX.out.b3_bel).mono ?_; rintro e w2 ⟨rfl, hb⟩; replace HBX := Lib.hid (bx3_step HBX.out hb); obtain ⟨r0, r1, r2, r3, r4, r5, r6⟩ := HK.out _ HBX.out; clear hb)
                  | (go_at_call 33; refine (HVS.out _ HBX.out.b3_bel).mono ?_; rintro e w3 ⟨rfl, hb⟩; replace HBX := Lib.hid (bx3_step HBX.out hb); obtain ⟨r0, r1, r2, r3, r4, r5, r6⟩ := HK.out _ HBX.out; clear hb))
                go_quiet (fail)
                go_wp2
                go_ret
                refine ⟨?_, (vbel HBX.out.b3_bel (drewN_under _ nq))⟩
                rw [HANS.out]
                first | rfl | (cases may <;> rfl) | (cases vd <;> rfl)
            · clear hL1
              go_enter Tryd.func12, Tryd.ntmps12
              go_wp2_with (first
                | (go_at_call 34; refine (HN.out _ HBX.out.b3_bel).mono ?_; rintro e w1 ⟨rfl, hb⟩; replace HBX := Lib.hid (bx3_step HBX.out hb); obtain ⟨r0, r1, r2, r3, r4, r5, r6⟩ := HK.out _ HBX.out; clear hb)
                | (go_at_call 35; refine (HMAY.out _ HBX.out.b3_bel).mono ?_; rintro e w2 ⟨rfl, hb⟩; replace HBX := Lib.hid (bx3_step HBX.out hb); obtain ⟨r0, r1, r2, r3, r4, r5, r6⟩ := HK.out _ HBX.out; clear hb)
                | (go_at_call 33; refine (HVS.out _ HBX.out.b3_bel).mono ?_; rintro e w3 ⟨rfl, hb⟩; replace HBX := Lib.hid (bx3_step HBX.out hb); obtain ⟨r0, r1, r2, r3, r4, r5, r6⟩ := HK.out _ HBX.out; clear hb))
              go_quiet (fail)
              go_wp2
              go_ret
              refine ⟨?_, (vbel HBX.out.b3_bel (drewN_under _ nq))⟩
              rw [HANS.out]
              first | rfl | (cases may <;> rfl) | (cases vd <;> rfl)
          · clear hL1 hso
            go_enter Tryd.func12, Tryd.ntmps12
            go_wp2_with (first
              | (go_at_call 34; refine (HN.out _ HBX.out.b3_bel).mono ?_; rintro e w1 ⟨rfl, hb⟩; replace HBX := Lib.hid (bx3_step HBX.out hb); obtain ⟨r0, r1, r2, r3, r4, r5, r6⟩ := HK.out _ HBX.out; clear hb)
              | (go_at_call 35; refine (HMAY.out _ HBX.out.b3_bel).mono ?_; rintro e w2 ⟨rfl, hb⟩; replace HBX := Lib.hid (bx3_step HBX.out hb); obtain ⟨r0, r1, r2, r3, r4, r5, r6⟩ := HK.out _ HBX.out; clear hb)
              | (go_at_call 33; refine (HVS.out _ HBX.out.b3_bel).mono ?_; rintro e w3 ⟨rfl, hb⟩; replace HBX := Lib.hid (bx3_step HBX.out hb); obtain ⟨r0, r1, r2, r3, r4, r5, r6⟩ := HK.out _ HBX.out; clear hb))
            go_quiet (fail)
            go_wp2
            go_ret
            refine ⟨?_, (vbel HBX.out.b3_bel (drewN_under _ nq))⟩
            rw [HANS.out]
            first | rfl | (cases may <;> rfl) | (cases vd <;> rfl)
        · have e15 : (ty == 15) = false := beq_false_of_ne h15
          have HANS := Lib.hid (W5.out rfl h12 h13 h15)
          clear W4 W5 hso hvn hL1 hnb
          go_enter Tryd.func12, Tryd.ntmps12
          go_wp2_with (first
            | (go_at_call 34; refine (HN.out _ HBX.out.b3_bel).mono ?_; rintro e w1 ⟨rfl, hb⟩; replace HBX := Lib.hid (bx3_step HBX.out hb); obtain ⟨r0, r1, r2, r3, r4, r5, r6⟩ := HK.out _ HBX.out; clear hb)
            | (go_at_call 35; refine (HMAY.out _ HBX.out.b3_bel).mono ?_; rintro e w2 ⟨rfl, hb⟩; replace HBX := Lib.hid (bx3_step HBX.out hb); obtain ⟨r0, r1, r2, r3, r4, r5, r6⟩ := HK.out _ HBX.out; clear hb)
            | (go_at_call 33; refine (HVS.out _ HBX.out.b3_bel).mono ?_; rintro e w3 ⟨rfl, hb⟩; replace HBX := Lib.hid (bx3_step HBX.out hb); obtain ⟨r0, r1, r2, r3, r4, r5, r6⟩ := HK.out _ HBX.out; clear hb))
          go_ret
          refine ⟨?_, HBX.out.b3_bel⟩
          rw [HANS.out]
          first | rfl | (cases may <;> rfl) | (cases vd <;> rfl)
end Go.Proofs.YtmdekdmcnnbofaaDoor
