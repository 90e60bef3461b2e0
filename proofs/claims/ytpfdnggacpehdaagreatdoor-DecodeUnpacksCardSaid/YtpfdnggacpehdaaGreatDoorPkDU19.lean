/- Several texts in one: FxB, FxC. What each proves, and its conditions, stands at its own head. -/
import Derived.Test.YtpfdnggacpehdaaGreatDoorPkDU16
import Derived.Test.YtpfdnggacpehdaaGreatDoorPkDU18
import Derived.Test.YtpfdnggacpehdaaGreatDoorPkDU5
import Derived.Test.YtpfdnggacpehdaaGreatDoorPkDU0
import Derived.Test.YtpfdnggacpehdaaGreatDoorPkDU2
import Derived.Test.YtpfdnggacpehdaaGreatDoorPkDU3
import Derived.Test.YtpfdnggacpehdaaGreatDoorPkDU15
import Derived.IntWalk
import Derived.Deep.RegionHeld3
import Derived.Shelf.Abstract
import Derived.WalkKit
import Derived.OwnWalk
import Derived.RowKitTokens
import Derived.Lib.Hide
/- The program's layer 16: where messages, enums and fields are. Conditions: those that each theorem names. -/
namespace Go.Proofs.YtpfdnggacpehdaaGreatDoor
open Go.RowKit
set_option linter.unusedVariables false
set_option maxRecDepth 100000

/-- The box behind a call's first one. -/
theorem box_two (w : World) (o1 o2 : Obj) : ((w.alloc o1).alloc o2).heap[w.heap.size]? = (w.alloc o1).heap[w.heap.size]? ∧ ((w.alloc o1).alloc o2).heap[w.heap.size + 1]? = ((w.alloc o1).alloc o2).heap[(w.alloc o1).heap.size]? ∧ Below w.heap.size w ((w.alloc o1).alloc o2) :=
  ⟨Below.heap_alloc _ _ _ (by simp), by rw [World.size_alloc], ((Below.refl _ w).alloc (Nat.le_refl _) _).alloc (by simp) _⟩
theorem fxeq_st (w : World) (p : Nat) (cs : Array Value) (t : TypeId) {v : Value} {ty : TypeId} (hp : w.heap[p]? = some (.cells #[v] ty (0, 0))) : (w.alloc (.cells cs t)).cell? ⟨p, 0, none⟩ = some v :=
  (World.cell?_of_block (a := ⟨p, 0, none⟩) (Below.heap_alloc w _ p (lt_of_block hp))).trans (obj_cell hp 0)

theorem fcm_any (p : Nat) (t : List UInt8) (x : Ms) (A1 A2 : Option Addr) (n1 c1 n2 c2 : Nat) (w : World) (hp : w.heap[p]? = some (.cells #[.string (strOf t)] 9 (0, 0))) :
    Calls Tryz.prog 63 #[.agg #[.string (strOf x.name), .slice A1 n1 c1, .slice A2 n2 c2], .pointer (some ⟨p, 0, none⟩)] w fun e w' => e = .returned (.bool (decide (x.name = t))) ∧ Below w.heap.size w w' := by
  have HE : ((strOf x.name).toList == (strOf t).toList) = decide (x.name = t) := strOf_beq _ _
  have HBX := Lib.hid (bx_start w #[.string (strOf x.name), .slice A1 n1 c1, .slice A2 n2 c2] 59)
  have r0 := obj_cell HBX.out.b_blk 0
  have r1 := fxeq_st w p #[.string (strOf x.name), .slice A1 n1 c1, .slice A2 n2 c2] 59 hp
  generalize decide (x.name = t) = b at *
  generalize strOf x.name = sx at *
  generalize strOf t = st at *
  clear hp
  go_enter Tryz.func63, Tryz.ntmps63
  go_wp2
  go_ret
  exact ⟨rfl, HBX.out.b_bel⟩
theorem fcn_any (p : Nat) (t : Int) (x : Fd) (w : World) (hp : w.heap[p]? = some (.cells #[.int .i64 t] 3 (0, 0))) :
    Calls Tryz.prog 139 #[fdV x, .pointer (some ⟨p, 0, none⟩)] w fun e w' => e = .returned (.bool (decide (x.num = t))) ∧ Below w.heap.size w w' := by
  unfold fdV
  have HBX := Lib.hid (bx_start w #[.string (strOf x.name), .int .i64 x.num, .int .i64 x.ty, .string (strOf x.ref), .bool x.rep, .bool x.loose, .string (strOf x.one)] 43)
  have r0 := obj_cell HBX.out.b_blk 1
  have r1 := fxeq_st w p #[.string (strOf x.name), .int .i64 x.num, .int .i64 x.ty, .string (strOf x.ref), .bool x.rep, .bool x.loose, .string (strOf x.one)] 43 hp
  have HE : (x.num == t) = decide (x.num = t) := by rw [Bool.eq_iff_iff]; simp
  generalize decide (x.num = t) = b at *
  clear hp
  go_enter Tryz.func139, Tryz.ntmps139
  go_wp2
  go_ret
  exact ⟨rfl, HBX.out.b_bel⟩

set_option maxHeartbeats 4000000 in
theorem fxmessage_any {S : Nat → Nat → Prop} (w : World) {A A2 : Option Addr} {n cap n2 cap2 : Nat} {s : Sc} (h : ScAt S w A n cap A2 n2 cap2 s) (t : List UInt8) :
    Calls Tryz.prog 28 #[.agg #[.slice A n cap, .slice A2 n2 cap2], .string (strOf t)] w fun e w' => e = .returned (.int .i64 (messageT s t)) ∧ Below w.heap.size w w' := by
  obtain ⟨w2, hw2⟩ : ∃ w2, w2 = (w.alloc (.cells #[.slice A n cap, .slice A2 n2 cap2] 25)).alloc (.cells #[.string (strOf t)] 9) := ⟨_, rfl⟩
  obtain ⟨k1, k2, hb⟩ := box_two w (.cells #[.slice A n cap, .slice A2 n2 cap2] 25) (.cells #[.string (strOf t)] 9)
  rw [heap_alloc_new] at k1 k2
  rw [← hw2] at k1 k2 hb
  have h2 := scAt_bel h hb
  have HI := Lib.hid (fxi_ms w2 h2.s_m h2.s_nm 63 #[.pointer (some ⟨w.heap.size + 1, 0, none⟩)] (enters_of Tryz.func63 (by kernel_rfl) rfl) (fun x => decide (x.name = t))
    (fun x hx B1 c1 B2 c2 hl hl2 wr hbw => fcm_any _ t x B1 B2 _ c1 _ c2 wr ((hbw.block _ (lt_of_block k2)).trans k2)))
  have e : messageT s t = posP s.msgs (fun x => decide (x.name = t)) := placeT_pos s.msgs Ms.name t
  rw [← e] at HI
  have r0 := obj_cell k1 0
  have r1 := obj_cell k1 1
  have HB := Lib.hid hb
  have HW2 := Lib.hid hw2
  rw [hw2] at r0 r1
  obtain ⟨st, hst⟩ : ∃ st, st = strOf t := ⟨_, rfl⟩
  rw [← hst] at r0 r1 HW2 ⊢
  clear h k1 k2 hb h2 hw2 e hst
  go_enter Tryz.func28, Tryz.ntmps28
  go_wp2_with (go_at_call 62; (with_reducible rw [← HW2.out]); refine HI.out.mono ?_; rintro e w3 ⟨rfl, hb⟩; have HB3 := Lib.hid (HB.out.trans (hb.mono HB.out.size)); clear hb)
  go_ret
  exact ⟨rfl, HB3.out⟩
set_option maxHeartbeats 4000000 in
theorem fxnumber_any {S T : Nat → Prop} (w : World) {A1 A2 : Option Addr} {nf ca nb cb : Nat} {x : Ms} (sn : ByteArray) (hl : Lst 7 S fdR w A1 ca x.fields) (hl2 : Lst 1 T inR w A2 cb x.barred) (hnf : nf = x.fields.length) (hnb : nb = x.barred.length) (t : Int) :
    Calls Tryz.prog 107 #[.agg #[.string sn, .slice A1 nf ca, .slice A2 nb cb], .int .i64 t] w fun e w' => e = .returned (.int .i64 (numAtT x t)) ∧ Below w.heap.size w w' := by
  obtain ⟨w2, hw2⟩ : ∃ w2, w2 = (w.alloc (.cells #[.string sn, .slice A1 nf ca, .slice A2 nb cb] 59)).alloc (.cells #[.int .i64 t] 3) := ⟨_, rfl⟩
  obtain ⟨k1, k2, hb⟩ := box_two w (.cells #[.string sn, .slice A1 nf ca, .slice A2 nb cb] 59) (.cells #[.int .i64 t] 3)
  rw [heap_alloc_new] at k1 k2
  rw [← hw2] at k1 k2 hb
  have h2 : Lst 7 S fdR w2 A1 ca x.fields := lst_keep hl fdR_keep (fun _ h => h) (bel_keep hb)
  have HI := Lib.hid (fxi_fd w2 h2 hnf 139 #[.pointer (some ⟨w.heap.size + 1, 0, none⟩)] (enters_of Tryz.func139 (by kernel_rfl) rfl) (fun x => decide (x.num = t))
    (fun x hx wr hbw => fcn_any _ t x wr ((hbw.block _ (lt_of_block k2)).trans k2)))
  have e : numAtT x t = posP x.fields (fun x => decide (x.num = t)) := placeZ_pos x.fields Fd.num t
  rw [← e] at HI
  have r0 := obj_cell k1 0
  have r1 := obj_cell k1 1
  have r2 := obj_cell k1 2
  have HB := Lib.hid hb
  have HW2 := Lib.hid hw2
  rw [hw2] at r0 r1 r2
  clear hl hl2 hnf hnb k1 k2 hb h2 hw2 e
  go_enter Tryz.func107, Tryz.ntmps107
  go_wp2_with (go_at_call 138; (with_reducible rw [← HW2.out]); refine HI.out.mono ?_; rintro e w3 ⟨rfl, hb⟩; have HB3 := Lib.hid (HB.out.trans (hb.mono HB.out.size)); clear hb)
  go_ret
  exact ⟨rfl, HB3.out⟩

end Go.Proofs.YtpfdnggacpehdaaGreatDoor

/- The program's layer 16: the numbers of a oneof's fields. Conditions: those that each theorem names. -/
namespace Go.Proofs.YtpfdnggacpehdaaGreatDoor
open Go.RowKit
set_option linter.unusedVariables false
set_option maxRecDepth 100000

theorem sl_int_on (w : World) (o : Obj) (t : TypeId) (x : Int) : Sl ((w.alloc o).alloc (.cells #[.int .i64 x] t)) (some ⟨w.heap.size + 1, 0, none⟩) 1 (zs [x]) := by
  have := sl_int1 (w.alloc o) t x
  rwa [World.size_alloc] at this

set_option maxHeartbeats 8000000 in
theorem fxmembers_any {S T : Nat → Prop} (w : World) {A1 A2 : Option Addr} {nf ca nb cb : Nat} {x : Ms} (sn : ByteArray) (hl : Lst 7 S fdR w A1 ca x.fields) (hl2 : Lst 1 T inR w A2 cb x.barred) (hnf : nf = x.fields.length) (hnb : nb = x.barred.length) (t : List UInt8) (h10 : nf ≤ 1000) :
    Calls Tryz.prog 108 #[.agg #[.string sn, .slice A1 nf ca, .slice A2 nb cb], .string (strOf t)] w fun e w' => ∃ A cap n, e = .returned (.slice A n cap) ∧ n = (membersT x t).length ∧ Lst 1 (fun g => w.heap.size ≤ g) inR w' A cap (membersT x t) ∧ Below w.heap.size w w' := by
  have q1 := hl.l_le
  have q2 := hl.l_max
  rw [← hnf] at q1
  unfold maxLen at q2
  have HL := Lib.hid hl
  have HNF := Lib.hid hnf
  have HBX := Lib.hid (bx_start w #[.string sn, .slice A1 nf ca, .slice A2 nb cb] 59)
  obtain ⟨st, hst⟩ : ∃ st, st = strOf t := ⟨_, rfl⟩
  have HST := Lib.hid hst
  have H10 := Lib.hid h10
  obtain ⟨w0, hw0⟩ : ∃ w0, w0 = w.alloc (.cells #[.string sn, .slice A1 nf ca, .slice A2 nb cb] 59) := ⟨_, rfl⟩
  have HW0 := Lib.hid hw0
  rw [← hw0] at HBX
  have HB0 := Lib.hid HBX.out
  have r0 := obj_cell (HBX.out).b_blk 0
  have r1 := obj_cell (HBX.out).b_blk 1
  have r2 := obj_cell (HBX.out).b_blk 2
  rw [← hst]
  rw [hw0] at r0 r1 r2
  clear hl hl2 hnf hnb hst hw0 HBX h10
  go_enter Tryz.func108, Tryz.ntmps108
  go_wp2
  clear r0 r1 r2
  go_loopg [5, 11] nf (fun gz x0 x1 wr => ∃ k : Nat, x1 = .int .i64 (k : Int) ∧ k + gz = nf ∧ ∃ vl, x0 = vl ∧ wr.ownsRow w0.heap.size 3 1 vl (((x.fields.take k).filter (inOne t)).map Fd.num).length (zs (((x.fields.take k).filter (inOne t)).map Fd.num)) ∧ Below w0.heap.size w0 wr)
  case atStart => exact ⟨0, rfl, by omega, _, rfl, World.ownsRow_nil _ _ _ _, by rw [← HW0.out]; exact Below.refl _ _⟩
  case round =>
    obtain ⟨k, rfl, hk, vl, rfl, hown, hbel⟩ := hrel
    have HOWL := Lib.hid hown
    have HBEL := Lib.hid hbel
    have HBX := Lib.hid (bx_step HB0.out hbel)
    clear hown hbel
    obtain ⟨g0, hg0⟩ : ∃ g0, g0 = gk := ⟨_, rfl⟩
    subst hg0
    by_cases hltk : k < nf
    · have tk : decide ((k : Int) < (nf : Int)) = true := decide_eq_true (by omega)
      obtain ⟨f, hf⟩ : ∃ f, x.fields[k]? = some f := ⟨_, List.getElem?_eq_getElem (by have := HNF.out; omega)⟩
      have HFI := Lib.hid hf
      obtain ⟨gf, of, rfl, _, hcf⟩ := fd_at HL.out hf
      have HCF := Lib.hid hcf
      clear hf hcf
      have HMS := Lib.hid (members_snoc x.fields (inOne t) k f HFI.out)
      have HLN : Hid ((((x.fields.take k).filter (inOne t)).map Fd.num).length ≤ 1000) := Lib.hid (by have h1 := List.length_filter_le (inOne t) (x.fields.take k); have := H10.out; have := HNF.out; rw [List.length_take] at h1; rw [List.length_map]; omega)
      obtain ⟨d0, d1, d2, d3, d4, d5, d6⟩ := HCF.out _ HBX.out.b_bel
      obtain ⟨s0, hs0⟩ : ∃ s0, s0 = strOf f.name := ⟨_, rfl⟩
      obtain ⟨s3, hs3⟩ : ∃ s3, s3 = strOf f.ref := ⟨_, rfl⟩
      obtain ⟨so1, hso1⟩ : ∃ sv, sv = strOf f.one := ⟨_, rfl⟩
      obtain ⟨z1, hz1⟩ : ∃ z1, z1 = f.num := ⟨_, rfl⟩
      obtain ⟨z2, hz2⟩ : ∃ z2, z2 = f.ty := ⟨_, rfl⟩
      obtain ⟨b4, hb4⟩ : ∃ b4, b4 = f.rep := ⟨_, rfl⟩
      obtain ⟨b5, hb5⟩ : ∃ b5, b5 = f.loose := ⟨_, rfl⟩
      rw [← hs0] at d0
      rw [← hz1] at d1
      rw [← hz2] at d2
      rw [← hs3] at d3
      rw [← hb4] at d4
      rw [← hb5] at d5
      rw [← hso1] at d6
      have HSO := Lib.hid hso1
      have HZ1 := Lib.hid hz1
      have HNB := Lib.hid (bx_start wr #[.string s0, .int .i64 z1, .int .i64 z2, .string s3, .bool b4, .bool b5, .string so1] 43)
      have n1 := obj_cell HNB.out.b_blk 1
      have n6 := obj_cell HNB.out.b_blk 6
      have HB1 := Lib.hid (HBEL.out.alloc HBEL.out.size (.cells #[.string s0, .int .i64 z1, .int .i64 z2, .string s3, .bool b4, .bool b5, .string so1] 43))
      clear hso1 hs0 hs3 hz1 hz2 hb4 hb5
      by_cases hemp : f.one = []
      · have u3 : so1.toList = [] := by rw [HSO.out, str_list]; exact hemp
        have u2 : so1.toList.isEmpty = true := by rw [u3]; rfl
        have u1 : (so1.toList == []) = true := by rw [u3]; rfl
        have HP : Hid (inOne t f = false) := Lib.hid (by unfold inOne; rw [hemp]; by_cases ht : t = [] <;> simp [ht])
        clear hemp
        go_wp2
        go_roundg (g0 - 1)
        case measure => omega
        case rel => exact ⟨k + 1, by go_num, by omega, _, rfl, (by rw [HMS.out, HP.out]; simpa using own_below HOWL.out ((Below.refl _ _).alloc (Nat.le_refl _) _)), HB1.out⟩
      · have u3 : ¬ so1.toList = [] := by rw [HSO.out, str_list]; exact hemp
        have u2 : so1.toList.isEmpty = false := by rw [List.isEmpty_eq_false_iff]; exact u3
        have u1 : (so1.toList == []) = false := by rw [HSO.out, str_list]; exact beq_false_of_ne hemp
        by_cases hone : f.one = t
        · obtain rfl : so1 = st := by rw [HSO.out, HST.out, hone]
          have HP : Hid (inOne t f = true) := Lib.hid (by unfold inOne; rw [← hone, decide_eq_false hemp]; simp)
          clear hemp hone
          go_wp2_with (first
            | (at_builtin; refine wpList_append_zs rfl _ _ rfl w0.heap.size _ _ _ rfl (own_below HOWL.out (((Below.refl _ _).alloc (Nat.le_refl _) _).alloc (by simp) _)) _ 1 1 [z1] rfl rfl (sl_int_on _ _ _ _) (by have := HLN.out; show _ + 1 ≤ 1000000; omega) (by have := HBEL.out.size; simp; omega) ?_; intro vl2 w3 ho hg; have HOL := Lib.hid ho; have HBL := Lib.hid ((HB1.out.alloc HB1.out.size _).grown hg (by have := HBEL.out.size; simp; omega) (fun k hk => (HOWL.out.lt k hk).1)); clear ho hg))
          go_roundg (g0 - 1)
          case measure => omega
          case rel => exact ⟨k + 1, by go_num, by omega, _, rfl, (by rw [HMS.out, HP.out, if_pos rfl, List.length_append, ← HZ1.out]; exact HOL.out), HBL.out⟩
        · have e1 : ¬ so1.toList = st.toList := by rw [HSO.out, HST.out, str_list, str_list]; exact hone
          have e2 : (so1.toList == st.toList) = false := by rw [HSO.out, HST.out, strOf_beq]; exact decide_eq_false hone
          have HP : Hid (inOne t f = false) := Lib.hid (by unfold inOne; rw [decide_eq_false hone]; simp)
          clear hone hemp
          go_wp2
          go_roundg (g0 - 1)
          case measure => omega
          case rel => exact ⟨k + 1, by go_num, by omega, _, rfl, (by rw [HMS.out, HP.out]; simpa using own_below HOWL.out ((Below.refl _ _).alloc (Nat.le_refl _) _)), HB1.out⟩
    · have tk : decide ((k : Int) < (nf : Int)) = false := decide_eq_false (by omega)
      have HF : Hid (((x.fields.take k).filter (inOne t)).map Fd.num = membersT x t) := Lib.hid (by rw [List.take_of_length_le (by have := HNF.out; omega)]; rfl)
      have ho := HOWL.out
      rw [HF.out] at ho
      obtain ⟨_, Al, capl, hvl, hsl⟩ := zs_own ho
      obtain ⟨nl, hnl⟩ : ∃ nl, nl = (membersT x t).length := ⟨_, rfl⟩
      rw [← hnl] at hvl
      subst hvl
      have HSL := Lib.hid hsl
      have HNL := Lib.hid hnl
      clear ho hsl hnl
      go_wp2
      go_ret
      exact ⟨Al, capl, nl, rfl, HNL.out, lst_keep HSL.out inR_keep (fun g hg => Nat.le_trans HB0.out.b_bel.size hg.1) (fun _ _ _ => rfl), HBX.out.b_bel⟩
end Go.Proofs.YtpfdnggacpehdaaGreatDoor
