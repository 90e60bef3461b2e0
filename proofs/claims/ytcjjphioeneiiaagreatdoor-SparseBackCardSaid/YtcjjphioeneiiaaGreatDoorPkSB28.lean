/- Several texts in one: FxB. What each proves, and its conditions, stands at its own head. -/
import Derived.Test.YtcjjphioeneiiaaGreatDoorPkSB17
import Derived.Test.YtcjjphioeneiiaaGreatDoorPkSB26
import Derived.Test.YtcjjphioeneiiaaGreatDoorPkSB16
import Derived.Test.YtcjjphioeneiiaaGreatDoorPkSB15
import Derived.Test.YtcjjphioeneiiaaGreatDoorPkSB0
/- The program's layer 16: where messages, enums and fields are. Conditions: those that each theorem names. -/
namespace Go.Proofs.YtcjjphioeneiiaaGreatDoor
open Go.RowKit
set_option linter.unusedVariables false
set_option maxRecDepth 100000

/-- The box behind a call's first one. -/
theorem box_two (w : World) (o1 o2 : Obj) : ((w.alloc o1).alloc o2).heap[w.heap.size]? = (w.alloc o1).heap[w.heap.size]? ∧ ((w.alloc o1).alloc o2).heap[w.heap.size + 1]? = ((w.alloc o1).alloc o2).heap[(w.alloc o1).heap.size]? ∧ Below w.heap.size w ((w.alloc o1).alloc o2) :=
 ⟨Below.heap_alloc _ _ _ (by simp), by rw [World.size_alloc], ((Below.refl _ w).alloc (Nat.le_refl _) _).alloc (by simp) _⟩
theorem fxeq_st (w : World) (p : Nat) (cs : Array Value) (t : TypeId) {v : Value} {ty : TypeId} (hp : w.heap[p]? = some (.cells #[v] ty (0, 0))) : (w.alloc (.cells cs t)).cell? ⟨p, 0, none⟩ = some v :=
 (World.cell?_of_block (a := ⟨p, 0, none⟩) (Below.heap_alloc w _ p (lt_of_block hp))).trans (obj_cell hp 0)

theorem fce_any (p : Nat) (t : List UInt8) (x : En) (A1 : Option Addr) (n1 c1 : Nat) (w : World) (hp : w.heap[p]? = some (.cells #[.string (strOf t)] 9 (0, 0))) :
 Calls Tryz.prog 245 #[.agg #[.string (strOf x.name), .slice A1 n1 c1], .pointer (some ⟨p, 0, none⟩)] w fun e w' => e = .returned (.bool (decide (x.name = t))) ∧ Below w.heap.size w w' := by
 have HE : ((strOf x.name).toList == (strOf t).toList) = decide (x.name = t) := strOf_beq _ _
 have HBX := Lib.hid (bx_start w #[.string (strOf x.name), .slice A1 n1 c1] 47)
 have r0 := obj_cell HBX.out.b_blk 0
 have r1 := fxeq_st w p #[.string (strOf x.name), .slice A1 n1 c1] 47 hp
 generalize decide (x.name = t) = b at *
 generalize strOf x.name = sx at *
 generalize strOf t = st at *
 clear hp
 go_enter Tryz.func245, Tryz.ntmps245
 go_wp2
 go_ret
 exact ⟨rfl, HBX.out.b_bel⟩
set_option maxHeartbeats 4000000 in
theorem fxenum_any {S : Nat → Nat → Prop} (w : World) {A A2 : Option Addr} {n cap n2 cap2 : Nat} {s : Sc} (h : ScAt S w A n cap A2 n2 cap2 s) (t : List UInt8) :
 Calls Tryz.prog 189 #[.agg #[.slice A n cap, .slice A2 n2 cap2], .string (strOf t)] w fun e w' => e = .returned (.int .i64 (enumT s t)) ∧ Below w.heap.size w w' := by
 obtain ⟨w2, hw2⟩ : ∃ w2, w2 = (w.alloc (.cells #[.slice A n cap, .slice A2 n2 cap2] 26)).alloc (.cells #[.string (strOf t)] 9) := ⟨_, rfl⟩
 obtain ⟨k1, k2, hb⟩ := box_two w (.cells #[.slice A n cap, .slice A2 n2 cap2] 26) (.cells #[.string (strOf t)] 9)
 rw [heap_alloc_new] at k1 k2
 rw [← hw2] at k1 k2 hb
 have h2 := scAt_bel h hb
 have HI := Lib.hid (fxi_en w2 h2.s_e h2.s_ne 245 #[.pointer (some ⟨w.heap.size + 1, 0, none⟩)] (enters_of Tryz.func245 (by kernel_rfl) rfl) (fun x => decide (x.name = t))
  (fun x hx B1 c1 hl wr hbw => fce_any _ t x B1 _ c1 wr ((hbw.block _ (lt_of_block k2)).trans k2)))
 have e : enumT s t = posP s.enums (fun x => decide (x.name = t)) := placeT_pos s.enums En.name t
 rw [← e] at HI
 have r0 := obj_cell k1 0
 have r1 := obj_cell k1 1
 have HB := Lib.hid hb
 have HW2 := Lib.hid hw2
 rw [hw2] at r0 r1
 obtain ⟨st, hst⟩ : ∃ st, st = strOf t := ⟨_, rfl⟩
 rw [← hst] at r0 r1 HW2 ⊢
 clear h k1 k2 hb h2 hw2 e hst
 go_enter Tryz.func189, Tryz.ntmps189
 go_wp2_with (go_at_call 190; (with_reducible rw [← HW2.out]); refine HI.out.mono ?_; rintro e w3 ⟨rfl, hb⟩; have HB3 := Lib.hid (HB.out.trans (hb.mono HB.out.size)); clear hb)
 go_ret
 exact ⟨rfl, HB3.out⟩

end Go.Proofs.YtcjjphioeneiiaaGreatDoor
