/- Several texts in one: PdE. What each proves, and its conditions, stands at its own head. -/
import Derived.Test.YtpfdnggacpehdaaGreatDoorPkDU39
import Derived.Test.YtpfdnggacpehdaaGreatDoorPkDU30
import Derived.Test.YtpfdnggacpehdaaGreatDoorPkDU19
/- The landed layer 22: a tree without the other fields of a oneof. Conditions: those that each theorem names. -/
namespace Go.Proofs.YtpfdnggacpehdaaGreatDoor
open Go.RowKit
set_option linter.unusedVariables false
set_option maxRecDepth 100000

def dropM (f : Fd) (sl : List Slt) (n : Int) : List Slt := if n ≠ f.num then withT n [] sl else sl
theorem others_members (m : Ms) (f : Fd) (sl : List Slt) : othersD m f sl = (membersT m f.one).foldl (dropM f) sl := by
  unfold othersD membersT
  generalize m.fields = l
  induction l generalizing sl with
  | nil => rfl
  | cons g l ih =>
    rw [List.foldl_cons, List.filter_cons]
    by_cases h : f.one ≠ [] ∧ g.one = f.one
    · have hi : inOne f.one g = true := by unfold inOne; simp [h.1, h.2]
      rw [if_pos hi, List.map_cons, List.foldl_cons, ih]
      congr 1
      unfold dropM
      by_cases h2 : g.num ≠ f.num
      · rw [if_pos ⟨h.1, h.2, h2⟩, if_pos h2]
      · rw [if_neg (fun k => h2 k.2.2), if_neg h2]
    · have hi : inOne f.one g = false := by
        unfold inOne
        by_cases e : f.one = []
        · simp [e]
        · simp [e]
          exact fun e2 => h ⟨e, e2⟩
      rw [hi, if_neg (fun k => h ⟨k.1, k.2.1⟩), ih]
      rfl
section
variable {R : List Value → Slt → Prop} {base : Nat} {w w1 w2 w' : World} {g : Nat} {vs vs1 vr : Value} {sl sl1 sl2 : List Slt}
theorem setTo_refl (h : HdT R base w g vs vr sl) : SetTo R base w g vs vr sl w := ⟨vs, h, Touch.refl _ _, .inl rfl⟩
theorem moved_trans {v v1 v2 : Value} (h1 : Moved w v v1) (hs : w.heap.size ≤ w1.heap.size) (h2 : Moved w1 v1 v2) : Moved w v v2 := by
  rcases h2 with h2 | ⟨k, h2, h3⟩
  · rcases h1 with h1 | ⟨k, h1, h4⟩
    · exact .inl (h2.trans h1)
    · exact .inr ⟨k, h2.trans h1, h4⟩
  · exact .inr ⟨k, h2, Nat.le_trans hs h3⟩
theorem setTo_trans (h1 : HdT R base w1 g vs1 vr sl1) (ht : Touch (fun k => k = g ∨ vs.ownBlock = some k) w w1) (hm : Moved w vs vs1) (h2 : SetTo R base w1 g vs1 vr sl2 w2) : SetTo R base w g vs vr sl2 w2 := by
  obtain ⟨v2, h3, h4, h5⟩ := h2
  refine ⟨v2, h3, ht.trans h4 (fun k hk => ?_), moved_trans hm ht.size h5⟩
  rcases hk with hk | hk
  · exact .inl (.inl hk)
  · rcases hm with hm | ⟨q, hm, hq⟩
    · exact .inl (.inr (by rw [← hm]; exact hk))
    · rw [hk] at hm
      cases hm
      exact .inr hq
set_option maxHeartbeats 8000000 in
theorem dalone_any (hR : Shape R) (h : HdT R base w g vs vr sl) {S T : Nat → Prop} {A1 A2 : Option Addr} {nf ca nb cb : Nat} {m : Ms} {sn : ByteArray} (hl : Lst 7 S fdR w A1 ca m.fields) (hl2 : Lst 1 T inR w A2 cb m.barred) (hnf : nf = m.fields.length) (hnb : nb = m.barred.length) (f : Fd) (h10 : nf ≤ 1000) :
    Calls Tryz.prog 69 #[.pointer (some ⟨g, 0, none⟩), .agg #[.string sn, .slice A1 nf ca, .slice A2 nb cb], fdV f] w fun e w' => e = .returned (.tuple #[]) ∧ SetTo R base w g vs vr (othersD m f sl) w' := by
  obtain ⟨w2, hw2⟩ : ∃ w2, w2 = (w.alloc (.cells #[.string sn, .slice A1 nf ca, .slice A2 nb cb] 59)).alloc (.cells #[.string (strOf f.name), .int .i64 f.num, .int .i64 f.ty, .string (strOf f.ref), .bool f.rep, .bool f.loose, .string (strOf f.one)] 43) := ⟨_, rfl⟩
  obtain ⟨k1, k2, hb⟩ := box_two w (.cells #[.string sn, .slice A1 nf ca, .slice A2 nb cb] 59) (.cells #[.string (strOf f.name), .int .i64 f.num, .int .i64 f.ty, .string (strOf f.ref), .bool f.rep, .bool f.loose, .string (strOf f.one)] 43)
  rw [heap_alloc_new] at k1 k2
  rw [← hw2] at k1 k2 hb
  have HM := Lib.hid (fxmembers_any w2 sn (lst_keep (S' := S) hl fdR_keep (fun _ h => h) (bel_keep hb)) (lst_keep (S' := T) hl2 inR_keep (fun _ h => h) (bel_keep hb)) hnf hnb f.one h10)
  have HOT : Hid (othersD m f sl = (membersT m f.one).foldl (dropM f) sl) := Lib.hid (others_members m f sl)
  have HDM : Hid (∀ sl n, dropM f sl n = if n ≠ f.num then withT n [] sl else sl) := Lib.hid (fun _ _ => rfl)
  have r0 := obj_cell k1 0
  have r1 := obj_cell k1 1
  have r2 := obj_cell k1 2
  have f1 := obj_cell k2 1
  have f6 := obj_cell k2 6
  have H := Lib.hid h
  have HB := Lib.hid hb
  have HW2 := Lib.hid hw2
  have HK2 := Lib.hid k2
  have hgl := lt_of_block h.h_blk
  have HVL : Hid (∀ k, vs.ownBlock = some k → k < w.heap.size) := Lib.hid (fun k hk => (ownL_blk h.h_row k hk).2)
  rw [hw2] at r0 r1 r2 f1 f6
  unfold fdV
  generalize strOf f.name = s0 at *
  generalize strOf f.ref = s3 at *
  generalize strOf f.one = s6 at *
  obtain ⟨fn, hfn⟩ : ∃ z, z = f.num := ⟨_, rfl⟩
  rw [← hfn] at f1 HK2 HDM HW2 ⊢
  generalize membersT m f.one = L at HM HOT
  clear hl hl2 hnf hnb k1 k2 hb hw2 h hfn
  go_enter Tryz.func69, Tryz.ntmps69
  go_wp2_with (go_at_call 108; (with_reducible rw [← HW2.out]); refine HM.out.mono ?_; rintro e w3 ⟨A, cap, n, rfl, hn, hL, hb3⟩; have HN := Lib.hid hn; have HL := Lib.hid hL; have HB3 := Lib.hid hb3; have HBW := Lib.hid (HB.out.trans (hb3.mono HB.out.size)); have q1 := hL.l_le; have q2 := hL.l_max; unfold maxLen at q2; rw [← hn] at q1; clear hn hL hb3)
  have H3 := Lib.hid (H.out.bel HBW.out)
  have HF3 : Hid (w3.heap[w.heap.size + 1]? = some (.cells #[.string s0, .int .i64 fn, .int .i64 f.ty, .string s3, .bool f.rep, .bool f.loose, .string s6] 43 (0, 0))) := Lib.hid (by
    have := (HB3.out.block _ (lt_of_block HK2.out)).trans HK2.out
    simpa using this)
  clear r0 r1 r2 f1 f6 HM
  go_loopw [7, 13] (fun x7 x13 wr => ∃ (k : Nat) (sl' : List Slt), x13 = .int .i64 (k : Int) ∧ k ≤ n ∧ sl' = (L.take k).foldl (dropM f) sl ∧ SetTo R base w3 g vs vr sl' wr) (fun x7 x13 _ => n - (intOf x13).toNat)
  case atStart => exact ⟨0, sl, rfl, Nat.zero_le _, rfl, setTo_refl H3.out⟩
  case round =>
    obtain ⟨k, sl', rfl, hk, hsl, vs1, hh, ht, hm⟩ := hrel
    have HS := Lib.hid hsl
    have HH := Lib.hid hh
    have HT := Lib.hid ht
    have HMV := Lib.hid hm
    clear hsl hh ht hm
    by_cases hkn : k < n
    · have g1 : decide ((k : Int) < (n : Int)) = true := decide_eq_true (by omega)
      obtain ⟨x, hx⟩ : ∃ x, L[k]? = some x := ⟨_, List.getElem?_eq_getElem (by have := HN.out; omega)⟩
      obtain ⟨gm, om, cs, rfl, hgm, _, hr, hc⟩ := HL.out.l_at k x hx
      obtain rfl : cs = [.int .i64 x] := hr
      have hcl := World.block_lt_of_cell? w3 _ (hc 0 _ rfl)
      have c0 : wr.cell? ⟨gm, om + k, none⟩ = some (.int .i64 x) := by
        have := (HT.out.cell (p := ⟨gm, om + k * 1 + 0, none⟩) hcl (fun hk => by
          have hgm' : w2.heap.size ≤ gm := hgm
          have := HB.out.size
          rcases hk with hk | hk
          · have e : gm = g := hk
            omega
          · have := HVL.out gm hk
            omega)).trans (hc 0 _ rfl)
        rw [Nat.mul_one, Nat.add_zero] at this
        exact this
      have hbx : wr.heap[w.heap.size + 1]? = some (.cells #[.string s0, .int .i64 fn, .int .i64 f.ty, .string s3, .bool f.rep, .bool f.loose, .string s6] 43 (0, 0)) := (HT.out.block _ (lt_of_block HF3.out) (fun hk => by
        rcases hk with hk | hk
        · omega
        · have := HVL.out _ hk
          omega)).trans HF3.out
      have f1 := obj_cell hbx 1
      have HST : Hid ((L.take (k + 1)).foldl (dropM f) sl = dropM f sl' x) := Lib.hid (by
        have e : L.take (k + 1) = L.take k ++ [x] := take_snoc' hx
        rw [e, List.foldl_append, ← HS.out]; rfl)
      have HDL : Hid ((withT x [] sl').length ≤ 900) := Lib.hid (by
        have h1 : (withT x [] sl').length ≤ sl'.length := (dropN_sub x sl').length_le
        have h2 := HH.out.h_len
        omega)
      clear hx hc hgm hcl hbx
      by_cases hxf : x = fn
      · have g2 : (x != fn) = false := by rw [hxf]; exact bne_self_eq_false' _
        have HXF := Lib.hid hxf
        clear hxf
        go_wp2
        go_roundw
        case rel => exact ⟨k + 1, sl', by go_num, by omega, by rw [HST.out, HDM.out, if_neg (fun h => h HXF.out)], vs1, HH.out, HT.out, HMV.out⟩
        case measure => simp [intOf]; omega
      · have g2 : (x != fn) = true := bne_iff_ne.2 hxf
        have HXF := Lib.hid hxf
        have HDS := Lib.hid (dset_any hR HH.out x (B := none) (n := 0) (c := 0) (vals := []) rfl (fun _ _ h _ => h) (fun h => absurd rfl h) HDL.out)
        clear hxf
        go_wp2_with (go_at_call 109; refine HDS.out.mono ?_; rintro e w5 ⟨rfl, h5⟩; have H5 := Lib.hid (setTo_trans HH.out HT.out HMV.out h5); clear h5)
        go_roundw
        case rel => exact ⟨k + 1, _, by go_num, by omega, by rw [HST.out, HDM.out, if_pos HXF.out], H5.out⟩
        case measure => simp [intOf]; omega
    · have g1 : decide ((k : Int) < (n : Int)) = false := decide_eq_false (by omega)
      have hkn2 : k = n := by omega
      have HE : Hid (othersD m f sl = sl') := Lib.hid (by rw [HOT.out, HS.out, hkn2, HN.out, List.take_length])
      clear hkn2
      go_wp2
      go_end0
      rw [HE.out]
      exact ⟨rfl, setTo_bel HBW.out ⟨vs1, HH.out, HT.out, HMV.out⟩⟩
end
end Go.Proofs.YtpfdnggacpehdaaGreatDoor
