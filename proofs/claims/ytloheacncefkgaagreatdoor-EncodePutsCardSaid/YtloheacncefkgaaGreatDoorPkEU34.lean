/- Several texts in one: TpB. What each proves, and its conditions, stands at its own head. -/
import Derived.Test.YtloheacncefkgaaGreatDoorPkEU32
import Derived.Test.YtloheacncefkgaaGreatDoorPkEU20
import Derived.Shelf.Abstract
import Derived.Deep.RegionHeld3
import Derived.Test.YtloheacncefkgaaGreatDoorPkEU3
import Derived.Test.YtloheacncefkgaaGreatDoorPkEU25
import Derived.Shelf.Strconv.Clone
import Derived.Test.YtloheacncefkgaaGreatDoorChecked
import Derived.Lib.AppendZerosOnto
import Derived.Test.YtloheacncefkgaaGreatDoorPkEU21
import Derived.Test.YtloheacncefkgaaGreatDoorPkEU14
import Derived.Deep.AppendLies
import Derived.Laws.EntriesVeiled
/- The program's Deep and Count of trees: one function goes through all trees, whatever is to be done with each. Conditions: those that each theorem names. -/
namespace Go.Proofs.YtloheacncefkgaaGreatDoor
open Go.RowKit
set_option linter.unusedVariables false
set_option maxRecDepth 100000

def numO (s : Nat) : Obj := .cells #[.int .i64 (s : Int)] 3 (0, 0)
/-- The two closures of 'through': what is done with each tree, and the one that calls itself. -/
structure ThAt (kv g pv pw : Nat) (u : World) : Prop where
 h_v : u.heap[pv]? = some (.cells #[.func (.func kv) #[] #[.pointer (some ⟨g, 0, none⟩)]] 109 (0, 0))
 h_w : u.heap[pw]? = some (.cells #[.func (.func 113) #[] #[.pointer (some ⟨pv, 0, none⟩), .pointer (some ⟨pw, 0, none⟩)]] 109 (0, 0))
 h_1 : pv ≠ g
 h_2 : pw ≠ g
theorem th_touch {kv g pv pw : Nat} {u u' : World} (h : ThAt kv g pv pw u) (ht : Touch (fun k => k = g) u u') : ThAt kv g pv pw u' :=
 ⟨(ht.block _ (lt_of_block h.h_v) h.h_1).trans h.h_v, (ht.block _ (lt_of_block h.h_w) h.h_2).trans h.h_w, h.h_1, h.h_2⟩
def VisOk (st : Nat → Tr → Nat → Nat) (kv g : Nat) : Prop := ∀ (S : Nat → Prop) (k : Nat) (w : World) (A : Option Addr) (na ca : Nat) (A2 : Option Addr) (nr cr : Nat) (t : Tr) (d s : Nat),
 w.heap[g]? = some (numO s) → (∀ b, S b → b ≠ g) → TrAt S k w A na ca A2 nr cr t → st s t d ≤ 1000 → s ≤ 1000 → d ≤ 1000 →
  Calls Tryz.prog kv #[.agg #[.slice A na ca, .slice A2 nr cr], .int .i64 (d : Int), .pointer (some ⟨g, 0, none⟩)] w fun e w' => e = .returned (.tuple #[]) ∧ w'.heap[g]? = some (numO (st s t d)) ∧ Touch (fun k => k = g) w w'
def WalkOk (st : Nat → Tr → Nat → Nat) (kv g k : Nat) : Prop := ∀ (pv pw : Nat) (S : Nat → Prop) (w : World) (A : Option Addr) (na ca : Nat) (A2 : Option Addr) (nr cr : Nat) (t : Tr) (d s : Nat),
 ThAt kv g pv pw w → w.heap[g]? = some (numO s) → (∀ b, S b → b ≠ g) → TrAt S k w A na ca A2 nr cr t → visN st (k + 1) s t d ≤ 1000 → d + deepN (k + 1) t ≤ 1000 →
  Calls Tryz.prog 113 #[.agg #[.slice A na ca, .slice A2 nr cr], .int .i64 (d : Int), .pointer (some ⟨pv, 0, none⟩), .pointer (some ⟨pw, 0, none⟩)] w fun e w' => e = .returned (.tuple #[]) ∧ w'.heap[g]? = some (numO (visN st (k + 1) s t d)) ∧ Touch (fun k => k = g) w w'
theorem kidsV_take {l : List Va} {i : Nat} {x : Va} (h : l[i]? = some x) : kidsV (l.take (i + 1)) = kidsV (l.take i) ++ x.vm := by
 unfold kidsV; rw [take_snoc' h, List.flatMap_append]; simp
theorem kidsS_take {l : List Slt} {i : Nat} {x : Slt} (h : l[i]? = some x) : kidsS (l.take (i + 1)) = kidsS (l.take i) ++ kidsV x.svals := by
 unfold kidsS; rw [take_snoc' h, List.flatMap_append]; simp
theorem kidsS_le {f : Nat → Tr → Nat} (hf : ∀ s x, s ≤ f s x) (l : List Slt) (i s : Nat) : (kidsS (l.take i)).foldl f s ≤ (kidsS l).foldl f s := by
 have e : kidsS l = kidsS (l.take i) ++ kidsS (l.drop i) := by unfold kidsS; rw [← List.flatMap_append, List.take_append_drop]
 rw [e, List.foldl_append]
 exact foldl_mono hf _ _
theorem kidsV_le {f : Nat → Tr → Nat} (hf : ∀ s x, s ≤ f s x) (l : List Va) (i s : Nat) : (kidsV (l.take i)).foldl f s ≤ (kidsV l).foldl f s := by
 have e : kidsV l = kidsV (l.take i) ++ kidsV (l.drop i) := by unfold kidsV; rw [← List.flatMap_append, List.take_append_drop]
 rw [e, List.foldl_append]
 exact foldl_mono hf _ _

set_option maxHeartbeats 16000000 in
theorem pwalk_step {st : Nat → Tr → Nat → Nat} (hst : ∀ s t d, s ≤ st s t d) {kv g k : Nat} (henter : Enters Tryz.prog kv) (HV : VisOk st kv g) (H : ∀ q, k = q + 1 → WalkOk st kv g q) : WalkOk st kv g k := by
 intro pv pw S w A na ca A2 nr cr t d s hth hs hS h hbd hdp
 obtain ⟨q1, q2, q3, q4⟩ := trAt_max h
 have hent : ∀ (args : Array Value) (w : World), (callFunc kv args).run Tryz.prog w = .ok (.enter kv args) w := henter
 obtain ⟨f, hf⟩ : ∃ f, f = (fun (s : Nat) (c : Tr) => visN st k s c (d + 1)) := ⟨_, rfl⟩
 have hfm : ∀ s x, s ≤ f s x := fun s x => by rw [hf]; exact visN_mono hst k s x (d + 1)
 have HTOT : Hid (visN st (k + 1) s t d = (kidsS t.slots).foldl f (st s t d)) := Lib.hid (by rw [hf]; rfl)
 obtain ⟨tot, htot⟩ : ∃ z, z = visN st (k + 1) s t d := ⟨_, rfl⟩
 rw [← htot] at hbd HTOT ⊢
 have hd0 : d ≤ 1000 := by omega
 have hd2 : 1 ≤ deepN (k + 1) t := by unfold deepN; omega
 have hd1 : d + 1 ≤ 1000 := by omega
 have HF := Lib.hid hf
 have HFM := Lib.hid hfm
 have HA := Lib.hid h
 have HTH := Lib.hid hth
 have HS := Lib.hid hS
 have HG := Lib.hid hs
 have HL := Lib.hid H
 have HDP := Lib.hid hdp
 have s1b : st s t d ≤ tot := by rw [HTOT.out]; exact foldl_mono hfm _ _
 obtain ⟨s1, hs1⟩ : ∃ z, z = st s t d := ⟨_, rfl⟩
 have hsb : s ≤ 1000 := Nat.le_trans (hst s t d) (by omega)
 have HVC : Hid (∀ u, Below w.heap.size w u → Calls Tryz.prog kv #[.agg #[.slice A na ca, .slice A2 nr cr], .int .i64 (d : Int), .pointer (some ⟨g, 0, none⟩)] u fun e w' => e = .returned (.tuple #[]) ∧ w'.heap[g]? = some (numO s1) ∧ Touch (fun k => k = g) u w') :=
  Lib.hid (fun u hb => by rw [hs1]; exact HV S k u _ _ _ _ _ _ t d s ((hb.block _ (lt_of_block hs)).trans hs) hS (trAt_bel h hb) (by omega) hsb hd0)
 rw [← hs1] at s1b HTOT
 have HBX := Lib.hid (bx_start w #[.slice A na ca, .slice A2 nr cr] 29)
 have r0 := obj_cell (HBX.out).b_blk 0
 have r1 := obj_cell (HBX.out).b_blk 1
 have v0 := obj_cell ((HBX.out.b_bel.block _ (lt_of_block hth.h_v)).trans hth.h_v) 0
 have HZB : Hid (w.heap.size ≠ g) := Lib.hid (by have := lt_of_block hs; omega)
 clear hf hfm htot h hth hS hs hs1 H hdp hsb HV hst
 go_enter Tryz.func113, Tryz.ntmps113
 go_wp2_with (go_at_fn kv; refine (HVC.out _ HBX.out.b_bel).mono ?_; rintro e w1 ⟨rfl, hg1, ht1⟩; have HG1 := Lib.hid hg1; have HT1 := Lib.hid ((Touch.of_below (fun k => k = g) HBX.out.b_bel).trans ht1 (fun _ h => .inl h)); have r0 := obj_cell ((ht1.block _ (lt_of_block HBX.out.b_blk) HZB.out).trans HBX.out.b_blk) 0; clear hg1 ht1)
 clear r0 r1 v0
 go_loopg [19] na (fun gz x0 wr => ∃ (i a : Nat), x0 = .int .i64 (i : Int) ∧ i + gz = na ∧ a = (kidsS (t.slots.take i)).foldl f s1 ∧ wr.heap[g]? = some (numO a) ∧ Touch (fun k => k = g) w wr)
 case atStart => exact ⟨0, s1, rfl, by omega, rfl, HG1.out, HT1.out⟩
 case round =>
  obtain ⟨i, a, rfl, hi, ha, hga, hta⟩ := hrel
  have HAV := Lib.hid ha
  have HGA := Lib.hid hga
  have HTA := Lib.hid hta
  clear ha hga hta
  obtain ⟨g1, hg1⟩ : ∃ g1, g1 = gk := ⟨_, rfl⟩
  subst hg1
  by_cases hlt : i < na
  ·have ti : decide ((i : Int) < (na : Int)) = true := decide_eq_true (by omega)
   obtain ⟨x, hx⟩ : ∃ x, t.slots[i]? = some x := ⟨_, List.getElem?_eq_getElem (by have := HA.out.t_ns; omega)⟩
   obtain ⟨ga, oa, A1, c1, rfl, _, hc, hv⟩ := sl_at HA.out.t_s hx
   have z1 := hv.l_le
   have z2 := hv.l_max
   unfold maxLen at z2
   have HXM := Lib.hid (List.mem_of_getElem? hx)
   obtain ⟨nv, hnv⟩ : ∃ z, z = x.svals.length := ⟨_, rfl⟩
   obtain ⟨sn, hsn⟩ : ∃ z, z = x.snum := ⟨_, rfl⟩
   rw [← hnv, ← hsn] at hc
   rw [← hnv] at z1
   have HNV := Lib.hid hnv
   have HVV := Lib.hid hv
   obtain ⟨a0, a1⟩ := hc _ (stay_touch HTA.out HS.out)
   have HAN : Hid ((kidsS (t.slots.take (i + 1))).foldl f s1 = (kidsV x.svals).foldl f a) := Lib.hid (by rw [kidsS_take hx, List.foldl_append, HAV.out])
   have HAB : Hid ((kidsV x.svals).foldl f a ≤ tot) := Lib.hid (by rw [← HAN.out, HTOT.out]; exact kidsS_le HFM.out _ _ _)
   have HT2 : Hid (∀ o, Touch (fun k => k = g) w (wr.alloc o)) := Lib.hid (fun o => HTA.out.alloc o)
   have HG2 : Hid (∀ o, (wr.alloc o).heap[g]? = some (numO a)) := Lib.hid (fun o => (Below.heap_alloc _ _ _ (lt_of_block HGA.out)).trans HGA.out)
   clear hx hc hv hnv hsn
   go_wp2
   clear a0 a1
   go_loopg [26] nv (fun gz x0 wr => ∃ (j b : Nat), x0 = .int .i64 (j : Int) ∧ j + gz = nv ∧ b = (kidsV (x.svals.take j)).foldl f a ∧ wr.heap[g]? = some (numO b) ∧ Touch (fun k => k = g) w wr)
   case atStart => exact ⟨0, a, rfl, by omega, rfl, HG2.out _, HT2.out _⟩
   case round =>
    obtain ⟨j, b, rfl, hj, hb, hgb, htb⟩ := hrel
    have HBV := Lib.hid hb
    have HGB := Lib.hid hgb
    have HTB := Lib.hid htb
    clear hb hgb htb
    obtain ⟨g2, hg2⟩ : ∃ g2, g2 = gk := ⟨_, rfl⟩
    subst hg2
    by_cases hltj : j < nv
    ·have tj : decide ((j : Int) < (nv : Int)) = true := decide_eq_true (by omega)
     obtain ⟨v, hv⟩ : ∃ v, x.svals[j]? = some v := ⟨_, List.getElem?_eq_getElem (by have := HNV.out; omega)⟩
     obtain ⟨gb, ob, B1, d1, rfl, _, hcb, hk⟩ := va_at HVV.out hv
     have z3 := hk.l_le
     have z4 := hk.l_max
     unfold maxLen at z4
     have HVM := Lib.hid (List.mem_of_getElem? hv)
     obtain ⟨nm, hnm⟩ : ∃ z, z = v.vm.length := ⟨_, rfl⟩
     obtain ⟨stx, hstx⟩ : ∃ z, z = strOf v.vs := ⟨_, rfl⟩
     obtain ⟨vn, hvn⟩ : ∃ z, z = (v.vn : Int) := ⟨_, rfl⟩
     rw [← hnm, ← hstx, ← hvn] at hcb
     rw [← hnm] at z3
     have HNM := Lib.hid hnm
     have HK := Lib.hid hk
     obtain ⟨b0, b1, b2⟩ := hcb _ (stay_touch HTB.out HS.out)
     have HBN : Hid ((kidsV (x.svals.take (j + 1))).foldl f a = v.vm.foldl f b) := Lib.hid (by rw [kidsV_take hv, List.foldl_append, HBV.out])
     have HBB : Hid (v.vm.foldl f b ≤ tot) := Lib.hid (by rw [← HBN.out]; exact Nat.le_trans (kidsV_le HFM.out _ _ _) HAB.out)
     have HT3 : Hid (∀ o, Touch (fun k => k = g) w (wr.alloc o)) := Lib.hid (fun o => HTB.out.alloc o)
     have HG3 : Hid (∀ o, (wr.alloc o).heap[g]? = some (numO b)) := Lib.hid (fun o => (Below.heap_alloc _ _ _ (lt_of_block HGB.out)).trans HGB.out)
     clear hv hcb hk hnm hstx hvn
     go_wp2
     clear b0 b1 b2
     go_loopg [33] nm (fun gz x0 wr => ∃ (q c : Nat), x0 = .int .i64 (q : Int) ∧ q + gz = nm ∧ c = (v.vm.take q).foldl f b ∧ wr.heap[g]? = some (numO c) ∧ Touch (fun k => k = g) w wr)
     case atStart => exact ⟨0, b, rfl, by omega, rfl, HG3.out _, HT3.out _⟩
     case round =>
      obtain ⟨q, c, rfl, hq, hc, hgc, htc⟩ := hrel
      have HCV := Lib.hid hc
      have HGC := Lib.hid hgc
      have HTC := Lib.hid htc
      clear hc hgc htc
      obtain ⟨g3, hg3⟩ : ∃ g3, g3 = gk := ⟨_, rfl⟩
      subst hg3
      by_cases hltq : q < nm
      ·have tq : decide ((q : Int) < (nm : Int)) = true := decide_eq_true (by omega)
       obtain ⟨y, hy⟩ : ∃ y, v.vm[q]? = some y := ⟨_, List.getElem?_eq_getElem (by have := HNM.out; omega)⟩
       obtain ⟨kk, gc, oc, C1, e1, cc1, C2, e2, cc2, hkk, rfl, _, hcc, hty⟩ := kid_at HK.out hy
       have HCN : Hid ((v.vm.take (q + 1)).foldl f b = visN st k c y (d + 1)) := Lib.hid (by rw [take_snoc' hy, List.foldl_append, ← HCV.out, HF.out]; rfl)
       have hyb : visN st k c y (d + 1) ≤ 1000 := by
        rw [← HCN.out]
        exact Nat.le_trans (foldl_takele HFM.out _ _ _) (Nat.le_trans HBB.out hbd)
       have hyd : d + 1 + deepN k y ≤ 1000 := by
        have h1 := HDP.out
        have h2 := supB_mem (deepN k) (List.mem_of_getElem? hy)
        have h3 := supB_mem (fun v : Va => supB (deepN k) v.vm) HVM.out
        have h4 := supB_mem (fun s : Slt => supB (fun v : Va => supB (deepN k) v.vm) s.svals) HXM.out
        unfold deepN at h1
        omega
       have HCALL : Hid (∀ u, Touch (fun k => k = g) w u → u.heap[g]? = some (numO c) → Calls Tryz.prog 113 #[.agg #[.slice C1 e1 cc1, .slice C2 e2 cc2], .int .i64 ((d : Int) + 1), .pointer (some ⟨pv, 0, none⟩), .pointer (some ⟨pw, 0, none⟩)] u fun e w' => e = .returned (.tuple #[]) ∧ w'.heap[g]? = some (numO (visN st k c y (d + 1))) ∧ Touch (fun k => k = g) u w') := Lib.hid (fun u hu hgu => by
        have h9 := HL.out kk hkk pv pw S u _ _ _ _ _ _ y (d + 1) c (th_touch HTH.out hu) hgu HS.out (trAt_keep hty (fun _ h => h) (stay_touch hu HS.out)) (by rw [← hkk]; exact hyb) (by rw [← hkk]; exact hyd)
        rw [← hkk] at h9
        rw [show ((d : Int) + 1) = ((d + 1 : Nat) : Int) by omega]
        exact h9)
       obtain ⟨c0, c1'⟩ := hcc _ (stay_touch HTC.out HS.out)
       have HT4 : Hid (∀ o, Touch (fun k => k = g) w (wr.alloc o)) := Lib.hid (fun o => HTC.out.alloc o)
       have HG4 : Hid (∀ o, (wr.alloc o).heap[g]? = some (numO c)) := Lib.hid (fun o => (Below.heap_alloc _ _ _ (lt_of_block HGC.out)).trans HGC.out)
       have w0 := fun o => obj_cell (th_touch HTH.out (HT4.out o)).h_w 0
       obtain ⟨res, hres⟩ : ∃ z, z = visN st k c y (d + 1) := ⟨_, rfl⟩
       rw [← hres] at HCN HCALL
       clear hy hcc hty hkk hres hyb hyd
       go_wp2_with (go_at_call 113; refine (HCALL.out _ (HT4.out _) (HG4.out _)).mono ?_; rintro e w2 ⟨rfl, hg9, ht9⟩; have HG9 := Lib.hid hg9; have HT9 := Lib.hid ((HT4.out _).trans ht9 (fun _ h => .inl h)); clear hg9 ht9)
       go_roundg (g3 - 1)
       case measure => omega
       case rel => exact ⟨q + 1, res, by go_num, by omega, HCN.out.symm, HG9.out, HT9.out⟩
      ·have tq : decide ((q : Int) < (nm : Int)) = false := decide_eq_false (by omega)
       have HFI : Hid (c = (kidsV (x.svals.take (j + 1))).foldl f a) := Lib.hid (by rw [HBN.out, HCV.out, List.take_of_length_le (by have := HNM.out; omega)])
       go_wp2
       go_roundg (g2 - 1)
       case measure => omega
       case rel => exact ⟨j + 1, c, by go_num, by omega, HFI.out, HGC.out, HTC.out⟩
    ·have tj : decide ((j : Int) < (nv : Int)) = false := decide_eq_false (by omega)
     have HFI : Hid (b = (kidsS (t.slots.take (i + 1))).foldl f s1) := Lib.hid (by rw [HAN.out, HBV.out, List.take_of_length_le (by have := HNV.out; omega)])
     go_wp2
     go_roundg (g1 - 1)
     case measure => omega
     case rel => exact ⟨i + 1, b, by go_num, by omega, HFI.out, HGB.out, HTB.out⟩
  ·have ti : decide ((i : Int) < (na : Int)) = false := decide_eq_false (by omega)
   have HFI : Hid (a = tot) := Lib.hid (by rw [HTOT.out, HAV.out, List.take_of_length_le (by have := HA.out.t_ns; omega)])
   go_wp2
   go_end0
   exact ⟨rfl, by rw [← HFI.out]; exact HGA.out, HTA.out⟩
theorem pwalk_any {st : Nat → Tr → Nat → Nat} (hst : ∀ s t d, s ≤ st s t d) {kv g : Nat} (henter : Enters Tryz.prog kv) (HV : VisOk st kv g) : ∀ k, WalkOk st kv g k
 | 0 => pwalk_step hst henter HV (fun q h => by cases h)
 | k + 1 => pwalk_step hst henter HV (fun q h => by cases h; exact pwalk_any hst henter HV k)

set_option maxHeartbeats 4000000 in
theorem pthrough_any {st : Nat → Tr → Nat → Nat} (hst : ∀ s t d, s ≤ st s t d) {kv g : Nat} (henter : Enters Tryz.prog kv) (HV : VisOk st kv g) {k : Nat} {S : Nat → Prop} (w : World) {A : Option Addr} {na ca : Nat} {A2 : Option Addr} {nr cr : Nat} {t : Tr} {s : Nat} (hs : w.heap[g]? = some (numO s)) (hS : ∀ b, S b → b ≠ g) (h : TrAt S k w A na ca A2 nr cr t) (hb : visN st (k + 1) s t 1 ≤ 1000) (hd : 1 + deepN (k + 1) t ≤ 1000) :
 Calls Tryz.prog 68 #[.agg #[.slice A na ca, .slice A2 nr cr], .func (.func kv) #[] #[.pointer (some ⟨g, 0, none⟩)]] w fun e w' => e = .returned (.tuple #[]) ∧ w'.heap[g]? = some (numO (visN st (k + 1) s t 1)) ∧ Touch (fun k => k = g) w w' := by
 have hg := lt_of_block hs
 have HC : Hid (∀ u pv pw, ThAt kv g pv pw u → Below w.heap.size w u → Calls Tryz.prog 113 #[.agg #[.slice A na ca, .slice A2 nr cr], .int .i64 1, .pointer (some ⟨pv, 0, none⟩), .pointer (some ⟨pw, 0, none⟩)] u fun e w' => e = .returned (.tuple #[]) ∧ w'.heap[g]? = some (numO (visN st (k + 1) s t 1)) ∧ Touch (fun k => k = g) u w') :=
  Lib.hid (fun u pv pw hu hbu => pwalk_any hst henter HV k pv pw S u _ _ _ _ _ _ t 1 s hu ((hbu.block _ hg).trans hs) hS (trAt_bel h hbu) hb hd)
 obtain ⟨a, ha⟩ : ∃ a, a = Obj.cells #[.slice A na ca, .slice A2 nr cr] 29 (0, 0) := ⟨_, rfl⟩
 have HTH : Hid (ThAt kv g (w.heap.size + 1) (w.heap.size + 1 + 1) (((w.alloc a).alloc (.cells #[.func (.func kv) #[] #[.pointer (some ⟨g, 0, none⟩)]] 109)).alloc (.cells #[.func (.func 113) #[] #[.pointer (some ⟨w.heap.size + 1, 0, none⟩), .pointer (some ⟨w.heap.size + 1 + 1, 0, none⟩)]] 109))) := Lib.hid (by
  have s1 : (w.alloc a).heap.size = w.heap.size + 1 := by simp
  have s2 : ((w.alloc a).alloc (.cells #[.func (.func kv) #[] #[.pointer (some ⟨g, 0, none⟩)]] 109)).heap.size = w.heap.size + 1 + 1 := by simp
  exact ⟨by rw [Below.heap_alloc _ _ _ (by omega), ← s1, heap_alloc_new], by rw [← s2, heap_alloc_new], by omega, by omega⟩)
 have HBE : Hid (∀ b c, Below w.heap.size w (((w.alloc a).alloc b).alloc c)) := Lib.hid (fun b c => (((Below.refl _ w).alloc (Nat.le_refl _) a).alloc (by simp) b).alloc (by simp; omega) c)
 rw [ha] at HTH HBE
 clear h hs ha hS hb hd HV hst
 go_enter Tryz.func68, Tryz.ntmps68
 go_wp2_with (go_at_call 113; refine (HC.out _ _ _ HTH.out (HBE.out _ _)).mono ?_; rintro e w2 ⟨rfl, hg9, ht9⟩; have HG9 := Lib.hid hg9; have HT9 := Lib.hid ((Touch.of_below (fun k => k = g) (HBE.out _ _)).trans ht9 (fun _ h => .inl h)); clear hg9 ht9)
 go_end0
 exact ⟨rfl, HG9.out, HT9.out⟩

set_option maxHeartbeats 4000000 in
theorem visdeep_any (g : Nat) : VisOk (fun s _ d => max s d) 69 g := by
 intro S k w A na ca A2 nr cr t d s hs hS h hb hsb hd
 dsimp only at hb ⊢
 have hg := lt_of_block hs
 have HBX := Lib.hid (bx_start w #[.slice A na ca, .slice A2 nr cr] 29)
 have hb2 : (w.alloc (.cells #[.slice A na ca, .slice A2 nr cr] 29)).heap[g]? = some (.cells #[.int .i64 (s : Int)] 3 (0, 0)) := (HBX.out.b_bel.block _ hg).trans hs
 have HBG := Lib.hid hb2
 have s0 := obj_cell hb2 0
 have s1 := obj_free hb2 0
 clear h hs hS hb2 hg
 have HT : Hid (∀ u, Touch (fun k => k = g) w ((w.alloc (.cells #[.slice A na ca, .slice A2 nr cr] 29)).setCell ⟨g, 0, none⟩ u)) := Lib.hid (fun u => (Touch.of_below (fun k => k = g) HBX.out.b_bel).set (.inl rfl) u)
 by_cases hle : s ≤ d
 ·have e1 : max s d = d := by omega
  have t1 : max (s : Int) (d : Int) = (d : Int) := by omega
  rw [e1]
  go_enter Tryz.func69, Tryz.ntmps69
  go_wp2
  go_end0
  exact ⟨rfl, obj_set HBG.out 0 _, HT.out _⟩
 ·have e1 : max s d = s := by omega
  have t1 : max (s : Int) (d : Int) = (s : Int) := by omega
  rw [e1]
  go_enter Tryz.func69, Tryz.ntmps69
  go_wp2
  go_end0
  exact ⟨rfl, obj_set HBG.out 0 _, HT.out _⟩

set_option maxHeartbeats 4000000 in
theorem pdeep_any {k : Nat} {S : Nat → Prop} (w : World) {A : Option Addr} {na ca : Nat} {A2 : Option Addr} {nr cr : Nat} {t : Tr} (h : TrAt S k w A na ca A2 nr cr t) (hd : deepN (k + 1) t ≤ 900) :
 Calls Tryz.prog 29 #[.agg #[.slice A na ca, .slice A2 nr cr]] w fun e w' => e = .returned (.int .i64 ((deepN (k + 1) t : Nat) : Int)) ∧ Below w.heap.size w w' := by
 have hv : visN (fun s _ d => max s d) (k + 1) 0 t 1 = deepN (k + 1) t := by
  rcases vis_deep k 0 t 1 with h | h
  ·rw [h]; omega
  ·cases h
 have HBX := Lib.hid (bx2_start w #[.slice A na ca, .slice A2 nr cr] #[.int .i64 0] 29 3)
 have HC : Hid (∀ u, Bx2 w u (.cells #[.slice A na ca, .slice A2 nr cr] 29 (0, 0)) (.cells #[.int .i64 0] 3 (0, 0)) → Calls Tryz.prog 68 #[.agg #[.slice A na ca, .slice A2 nr cr], .func (.func 69) #[] #[.pointer (some ⟨w.heap.size + 1, 0, none⟩)]] u fun e w' => e = .returned (.tuple #[]) ∧ w'.heap[w.heap.size + 1]? = some (numO (deepN (k + 1) t)) ∧ Touch (fun k => k = w.heap.size + 1) u w') := Lib.hid (fun u hu => by
  have h9 := pthrough_any (fun s t d => Nat.le_max_left s d) (kv := 69) (g := w.heap.size + 1) (fun _ _ => rfl) (visdeep_any _) (s := 0) u hu.b2_two (S := fun g => S g ∧ g < w.heap.size) (fun b hb => by omega) (trAt_bel (trAt_lt h) hu.b2_bel) (by rw [hv]; omega) (by omega)
  rw [hv] at h9
  exact h9)
 have r0 := obj_cell HBX.out.b2_one 0
 have r1 := obj_cell HBX.out.b2_one 1
 obtain ⟨r, hr⟩ : ∃ z, z = deepN (k + 1) t := ⟨_, rfl⟩
 rw [← hr] at HC ⊢
 clear h hd hv hr
 go_enter Tryz.func29, Tryz.ntmps29
 go_wp2_with (go_at_call 68; refine (HC.out _ HBX.out).mono ?_; rintro e w2 ⟨rfl, hg9, ht9⟩; have z0 := obj_cell (show w2.heap[w.heap.size + 1]? = some (.cells #[.int .i64 (r : Int)] 3 (0, 0)) from hg9) 0; have HB := Lib.hid (HBX.out.b2_bel.trans (ht9.below (B := w.heap.size) (by simp; omega) (fun k hk => by omega))); clear hg9 ht9)
 go_ret
 exact ⟨rfl, HB.out⟩
end Go.Proofs.YtloheacncefkgaaGreatDoor
