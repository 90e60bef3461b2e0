/- Several texts in one: FxB. What each proves, and its conditions, stands at its own head. -/
import Derived.Test.YtloheacncefkgaaGreatDoorPkEU21
import Derived.Test.YtloheacncefkgaaGreatDoorPkEU22
import Derived.Test.YtloheacncefkgaaGreatDoorPkEU20
import Derived.Shelf.Abstract
import Derived.Deep.RegionHeld3
import Derived.Test.YtloheacncefkgaaGreatDoorPkEU3
import Derived.Test.YtloheacncefkgaaGreatDoorPkEU0
import Derived.WalkKit
import Derived.OwnWalk
import Derived.RowKitTokens
import Derived.Lib.Hide
/- The program's layer 16: where messages, enums and fields are. Conditions: those that each theorem names. -/
namespace Go.Proofs.YtloheacncefkgaaGreatDoor
open Go.RowKit
set_option linter.unusedVariables false
set_option maxRecDepth 100000

/-- The box behind a call's first one. -/
theorem box_two (w : World) (o1 o2 : Obj) : ((w.alloc o1).alloc o2).heap[w.heap.size]? = (w.alloc o1).heap[w.heap.size]? ∧ ((w.alloc o1).alloc o2).heap[w.heap.size + 1]? = ((w.alloc o1).alloc o2).heap[(w.alloc o1).heap.size]? ∧ Below w.heap.size w ((w.alloc o1).alloc o2) :=
 ⟨Below.heap_alloc _ _ _ (by simp), by rw [World.size_alloc], ((Below.refl _ w).alloc (Nat.le_refl _) _).alloc (by simp) _⟩
theorem fxeq_st (w : World) (p : Nat) (cs : Array Value) (t : TypeId) {v : Value} {ty : TypeId} (hp : w.heap[p]? = some (.cells #[v] ty (0, 0))) : (w.alloc (.cells cs t)).cell? ⟨p, 0, none⟩ = some v :=
 (World.cell?_of_block (a := ⟨p, 0, none⟩) (Below.heap_alloc w _ p (lt_of_block hp))).trans (obj_cell hp 0)

theorem fcm_any (p : Nat) (t : List UInt8) (x : Ms) (A1 A2 : Option Addr) (n1 c1 n2 c2 : Nat) (w : World) (hp : w.heap[p]? = some (.cells #[.string (strOf t)] 9 (0, 0))) :
 Calls Tryz.prog 56 #[.agg #[.string (strOf x.name), .slice A1 n1 c1, .slice A2 n2 c2], .pointer (some ⟨p, 0, none⟩)] w fun e w' => e = .returned (.bool (decide (x.name = t))) ∧ Below w.heap.size w w' := by
 have HE : ((strOf x.name).toList == (strOf t).toList) = decide (x.name = t) := strOf_beq _ _
 have HBX := Lib.hid (bx_start w #[.string (strOf x.name), .slice A1 n1 c1, .slice A2 n2 c2] 57)
 have r0 := obj_cell HBX.out.b_blk 0
 have r1 := fxeq_st w p #[.string (strOf x.name), .slice A1 n1 c1, .slice A2 n2 c2] 57 hp
 generalize decide (x.name = t) = b at *
 generalize strOf x.name = sx at *
 generalize strOf t = st at *
 clear hp
 go_enter Tryz.func56, Tryz.ntmps56
 go_wp2
 go_ret
 exact ⟨rfl, HBX.out.b_bel⟩
theorem fcn_any (p : Nat) (t : Int) (x : Fd) (w : World) (hp : w.heap[p]? = some (.cells #[.int .i64 t] 3 (0, 0))) :
 Calls Tryz.prog 102 #[fdV x, .pointer (some ⟨p, 0, none⟩)] w fun e w' => e = .returned (.bool (decide (x.num = t))) ∧ Below w.heap.size w w' := by
 unfold fdV
 have HBX := Lib.hid (bx_start w #[.string (strOf x.name), .int .i64 x.num, .int .i64 x.ty, .string (strOf x.ref), .bool x.rep, .bool x.loose, .string (strOf x.one)] 44)
 have r0 := obj_cell HBX.out.b_blk 1
 have r1 := fxeq_st w p #[.string (strOf x.name), .int .i64 x.num, .int .i64 x.ty, .string (strOf x.ref), .bool x.rep, .bool x.loose, .string (strOf x.one)] 44 hp
 have HE : (x.num == t) = decide (x.num = t) := by rw [Bool.eq_iff_iff]; simp
 generalize decide (x.num = t) = b at *
 clear hp
 go_enter Tryz.func102, Tryz.ntmps102
 go_wp2
 go_ret
 exact ⟨rfl, HBX.out.b_bel⟩

set_option maxHeartbeats 4000000 in
theorem fxmessage_any {S : Nat → Nat → Prop} (w : World) {A A2 : Option Addr} {n cap n2 cap2 : Nat} {s : Sc} (h : ScAt S w A n cap A2 n2 cap2 s) (t : List UInt8) :
 Calls Tryz.prog 27 #[.agg #[.slice A n cap, .slice A2 n2 cap2], .string (strOf t)] w fun e w' => e = .returned (.int .i64 (messageT s t)) ∧ Below w.heap.size w w' := by
 obtain ⟨w2, hw2⟩ : ∃ w2, w2 = (w.alloc (.cells #[.slice A n cap, .slice A2 n2 cap2] 25)).alloc (.cells #[.string (strOf t)] 9) := ⟨_, rfl⟩
 obtain ⟨k1, k2, hb⟩ := box_two w (.cells #[.slice A n cap, .slice A2 n2 cap2] 25) (.cells #[.string (strOf t)] 9)
 rw [heap_alloc_new] at k1 k2
 rw [← hw2] at k1 k2 hb
 have h2 := scAt_bel h hb
 have HI := Lib.hid (fxi_ms w2 h2.s_m h2.s_nm 56 #[.pointer (some ⟨w.heap.size + 1, 0, none⟩)] (enters_of Tryz.func56 (by kernel_rfl) rfl) (fun x => decide (x.name = t))
  (fun x hx B1 c1 B2 c2 hl hl2 wr hbw => fcm_any _ t x B1 B2 _ c1 _ c2 wr ((hbw.block _ (lt_of_block k2)).trans k2)))
 have e : messageT s t = posP s.msgs (fun x => decide (x.name = t)) := placeT_pos s.msgs Ms.name t
 rw [← e] at HI
 have r0 := obj_cell k1 0
 have r1 := obj_cell k1 1
 have HB := Lib.hid hb
 have HW2 := Lib.hid hw2
 rw [hw2] at r0 r1
 obtain ⟨st, hst⟩ : ∃ st, st = strOf t := ⟨_, rfl⟩
 rw [← hst] at r0 r1 HW2 ⊢
 clear h k1 k2 hb h2 hw2 e hst
 go_enter Tryz.func27, Tryz.ntmps27
 go_wp2_with (go_at_call 55; (with_reducible rw [← HW2.out]); refine HI.out.mono ?_; rintro e w3 ⟨rfl, hb⟩; have HB3 := Lib.hid (HB.out.trans (hb.mono HB.out.size)); clear hb)
 go_ret
 exact ⟨rfl, HB3.out⟩
set_option maxHeartbeats 4000000 in
theorem fxnumber_any {S T : Nat → Prop} (w : World) {A1 A2 : Option Addr} {nf ca nb cb : Nat} {x : Ms} (sn : ByteArray) (hl : Lst 7 S fdR w A1 ca x.fields) (hl2 : Lst 1 T inR w A2 cb x.barred) (hnf : nf = x.fields.length) (hnb : nb = x.barred.length) (t : Int) :
 Calls Tryz.prog 60 #[.agg #[.string sn, .slice A1 nf ca, .slice A2 nb cb], .int .i64 t] w fun e w' => e = .returned (.int .i64 (numAtT x t)) ∧ Below w.heap.size w w' := by
 obtain ⟨w2, hw2⟩ : ∃ w2, w2 = (w.alloc (.cells #[.string sn, .slice A1 nf ca, .slice A2 nb cb] 57)).alloc (.cells #[.int .i64 t] 3) := ⟨_, rfl⟩
 obtain ⟨k1, k2, hb⟩ := box_two w (.cells #[.string sn, .slice A1 nf ca, .slice A2 nb cb] 57) (.cells #[.int .i64 t] 3)
 rw [heap_alloc_new] at k1 k2
 rw [← hw2] at k1 k2 hb
 have h2 : Lst 7 S fdR w2 A1 ca x.fields := lst_keep hl fdR_keep (fun _ h => h) (bel_keep hb)
 have HI := Lib.hid (fxi_fd w2 h2 hnf 102 #[.pointer (some ⟨w.heap.size + 1, 0, none⟩)] (enters_of Tryz.func102 (by kernel_rfl) rfl) (fun x => decide (x.num = t))
  (fun x hx wr hbw => fcn_any _ t x wr ((hbw.block _ (lt_of_block k2)).trans k2)))
 have e : numAtT x t = posP x.fields (fun x => decide (x.num = t)) := placeZ_pos x.fields Fd.num t
 rw [← e] at HI
 have r0 := obj_cell k1 0
 have r1 := obj_cell k1 1
 have r2 := obj_cell k1 2
 have HB := Lib.hid hb
 have HW2 := Lib.hid hw2
 rw [hw2] at r0 r1 r2
 clear hl hl2 hnf hnb k1 k2 hb h2 hw2 e
 go_enter Tryz.func60, Tryz.ntmps60
 go_wp2_with (go_at_call 101; (with_reducible rw [← HW2.out]); refine HI.out.mono ?_; rintro e w3 ⟨rfl, hb⟩; have HB3 := Lib.hid (HB.out.trans (hb.mono HB.out.size)); clear hb)
 go_ret
 exact ⟨rfl, HB3.out⟩

end Go.Proofs.YtloheacncefkgaaGreatDoor
