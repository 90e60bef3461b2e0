/- Several texts in one: PdG. What each proves, and its conditions, stands at its own head. -/
import Derived.Test.YtpfdnggacpehdaaGreatDoorPkDU43
import Derived.Test.YtpfdnggacpehdaaGreatDoorPkDU30
import Derived.Test.YtpfdnggacpehdaaGreatDoorPkDU44
import Derived.Test.YtpfdnggacpehdaaGreatDoorPkDU37
import Derived.Laws.MakeOwn
/- The landed layer 22: the values behind a tag. Conditions: those that each theorem names. -/
namespace Go.Proofs.YtpfdnggacpehdaaGreatDoor
open Go.RowKit
set_option linter.unusedVariables false
set_option maxRecDepth 100000

/-- A value that is no message, in its cells. -/
def RV (c : List Value) (y : Va) : Prop := y.vm = [] ∧ c = [.int .u64 (y.vn : Int), .string (strOf y.vs), .slice none 0 0]
theorem val_append {R : List Value → Va → Prop} {base : Nat} {w : World} {v : Value} {l : List Va} (ty : TypeId) (h : OwnL base 65 3 R w v l) {c : List Value} {x : Va} (hx : R c x) (hc : c.length = 3) (h1 : ∀ u ∈ c, u.oneCell' = true) (hl : l.length ≤ 100000) (hb : base ≤ w.heap.size) :
    ∃ v' w', (Builtin.append_ #[66, 66] ty #[v, .slice (some ⟨w.heap.size, 0, none⟩) 1 1]).run Tryz.prog (w.alloc (.cells c.toArray 65)) = .ok v' w' ∧ (OwnL base 65 3 R w' v' (l ++ [x]) ∧ (w.alloc (.cells c.toArray 65)).grownBy w' v.ownBlock ∧ Moved (w.alloc (.cells c.toArray 65)) v v') := by
  obtain ⟨i, i1, i2, i3, i4⟩ := info_ofs info_val
  exact ownL_append (P := Tryz.prog) ty Tryz.underlying66 i1 i2 i3 i4 rfl (by decide) (ownL_bel h (fun _ _ h => h) ((Below.refl _ w).alloc (Nat.le_refl _) _)) hx hc h1 (fun j z hz => by
    have := cells_new w c.toArray 65 j z (by simpa using hz)
    exact this) hl (by decide) (by simp; omega)
def vN (n : Nat) : Va := ⟨n, [], []⟩
theorem own_blk0 {α : Type} {base k : Nat} {t : TypeId} {R : List Value → α → Prop} {w : World} {A : Option Addr} {n c q : Nat} {l : List α} (h : OwnL base t k R w (.slice A n c) l) (hq : (Value.slice A n c).ownBlock = some q) : A = some ⟨q, 0, none⟩ := by
  obtain ⟨css, _, _, h3⟩ := h
  obtain ⟨A', c', e, _, _, _, h1⟩ := own_form h3
  cases e
  cases A with
  | none => simp [Value.ownBlock] at hq
  | some a =>
    obtain ⟨g, rfl⟩ := h1 a rfl
    have : g = q := by simpa [Value.ownBlock] using hq
    rw [this]
theorem own_more {α : Type} {base k : Nat} {t : TypeId} {R : List Value → α → Prop} {w : World} {v : Value} {l : List α} {x : α} (h : OwnL base t k R w v (l ++ [x])) : ∃ q, v.ownBlock = some q := by
  obtain ⟨g, cap, c, rfl, _⟩ := ownL_at h (j := l.length) (x := x) (by simp)
  exact ⟨g, rfl⟩
set_option maxHeartbeats 8000000 in
theorem dunpacked_any (f : Fd) (t : List UInt8) (w : World) (env : ScEnv w) (hty : Int64 f.ty) (hl : t.length ≤ 90000) :
    Calls Tryz.prog 145 #[fdV f, .string (strOf t)] w fun e w' => ∃ A n c ok, e = .returned (.tuple #[.slice A n c, .bool ok]) ∧ ok = (unpackO f t).isSome ∧ Below w.heap.size w w' ∧ OwnL w.heap.size 65 3 RV w' (.slice A n c) (((unpackO f t).getD []).map vN) ∧ ∃ q, A = some ⟨q, 0, none⟩ := by
  have HU := Lib.hid (fun w' (hb : Below w.heap.size w w') => dunpack_any f t w' (env.rides hb) hty (by omega))
  have hbx := bx_start w #[.string (strOf f.name), .int .i64 f.num, .int .i64 f.ty, .string (strOf f.ref), .bool f.rep, .bool f.loose, .string (strOf f.one)] 43
  have HUL : Hid (∀ l, unpackO f t = some l → l.length ≤ t.length) := Lib.hid (fun l h => by
    unfold unpackO at h
    split at h
    · split at h
      · cases h
        have := nums64_len (ty := f.ty) (bs := t) (t.length + 1) ⟨0, [t.length]⟩ rfl
        exact Nat.le_trans this (Nat.sub_le _ _)
      · cases h
    · cases h)
  unfold fdV at HU ⊢
  generalize unpackO f t = uo at *
  generalize strOf f.name = s0 at *
  generalize strOf f.ref = s3 at *
  generalize strOf f.one = s6 at *
  have HBX := Lib.hid hbx
  have r0 := obj_cell hbx.b_blk 0
  have r1 := obj_cell hbx.b_blk 1
  have r2 := obj_cell hbx.b_blk 2
  have r3 := obj_cell hbx.b_blk 3
  have r4 := obj_cell hbx.b_blk 4
  have r5 := obj_cell hbx.b_blk 5
  have r6 := obj_cell hbx.b_blk 6
  have HMK : Hid (∀ (n : Nat) (w1 : World), n ≤ 90000 → ∃ MC, MC.size = n * 3 ∧ (Instr.makeSlice 66 (.int .i64 0) (.int .i64 (n : Int))).run Tryz.prog w1 = .ok (.slice (some ⟨w1.heap.size, 0, none⟩) 0 n) (w1.alloc (.cells MC 65))) := Lib.hid (fun n w1 hn => by
    obtain ⟨i, i1, i2, i3, i4⟩ := info_ofs info_val
    have := run_make (P := Tryz.prog) w1 66 65 i _ Tryz.underlying66 i1 i2 .i64 .i64 0 (n : Int) (Int.le_refl _) (by omega) (by rw [i4]; omega) (by omega)
    simp only [Int.toNat_zero, Int.toNat_natCast, i3] at this
    exact ⟨_, size_madeCells _ _, this⟩)
  have HTL := Lib.hid hl
  clear hbx env hty hl
  go_enter Tryz.func145, Tryz.ntmps145
  go_wp2_with (go_at_call 14; refine (HU.out _ HBX.out.b_bel).mono ?_; rintro e w2 ⟨A, n, cap, ok, rfl, hb, hs, hn⟩; have HB2 := Lib.hid (vbel HBX.out.b_bel hb); have HS := Lib.hid hs; have HN := Lib.hid hn; have hle : n ≤ 90000 := (by cases huo : uo with | none => have := (hn huo).2.2.1; omega | some l => have h1 := (hs l huo).2.1; have h2 := HUL.out l huo; have := HTL.out; omega); obtain ⟨MC, hmc, hmk⟩ := HMK.out n w2 hle; have HMC := Lib.hid hmc; clear hb hs hn hmc)
  obtain ⟨L, hL⟩ : ∃ L, L = uo.getD [] := ⟨_, rfl⟩
  have HLE := Lib.hid hL
  have HLN : Hid (n = L.length) := Lib.hid (by
    rw [hL]
    cases huo : uo with
    | none => exact (HN.out huo).2.2.1
    | some l => exact (HS.out l huo).2.1)
  have HOK : Hid (ok = uo.isSome) := Lib.hid (by
    cases huo : uo with
    | none => exact (HN.out huo).1
    | some l => exact (HS.out l huo).1)
  have HAT : Hid (n ≤ cap ∧ cap ≤ 9223372036854775807 ∧ ∀ (k x : Nat), L[k]? = some x → ∃ b off, A = some ⟨b, off, none⟩ ∧ w2.cell? ⟨b, off + k, none⟩ = some (.int .u64 (x : Int))) := Lib.hid (by
    cases huo : uo with
    | none =>
      obtain ⟨_, _, h1, h2⟩ := HN.out huo
      refine ⟨by omega, by omega, fun k x hx => ?_⟩
      rw [hL, huo] at hx
      simp at hx
    | some l =>
      obtain ⟨_, h1, h2⟩ := HS.out l huo
      have hle := h2.le
      have hmx := h2.max
      unfold maxLen at hmx
      rw [u64s_length] at hle
      refine ⟨by omega, by omega, fun k x hx => h2.at_ k _ ?_⟩
      rw [hL, huo] at hx
      have hx2 : l[k]? = some x := hx
      unfold u64s
      rw [List.getElem?_map, hx2]; rfl)
  have hcap1 := HAT.out.1
  have hcap2 := HAT.out.2.1
  have HST : Hid (OwnL w2.heap.size 65 3 RV (w2.alloc (.cells MC 65)) (.slice (some ⟨w2.heap.size, 0, none⟩) 0 n) ((L.take 0).map vN)) := Lib.hid ⟨[], rfl, fun j c x h => by simp at h, World.ownsRow_made w2 MC n (Nat.le_refl _) (by unfold maxLen; omega) HMC.out⟩
  clear hL r0 r1 r2 r3 r4 r5 r6 hmk
  go_loopw [8, 10, 22] (fun x8 x10 x22 wr => ∃ (k : Nat) (v : Value), x8 = v ∧ x22 = .int .i64 (k : Int) ∧ k ≤ n ∧ Below w2.heap.size w2 wr ∧ OwnL w2.heap.size 65 3 RV wr v ((L.take k).map vN) ∧ ∃ q, v.ownBlock = some q) (fun _ _ x22 _ => n - (intOf x22).toNat)
  case atStart => exact ⟨0, _, rfl, rfl, Nat.zero_le _, (Below.refl _ _).alloc (Nat.le_refl _) _, HST.out, _, rfl⟩
  case round =>
    obtain ⟨k, v, rfl, rfl, hk, hb, hv, q, hq⟩ := hrel
    have HQ := Lib.hid hq
    clear hq
    have HB := Lib.hid hb
    have HV := Lib.hid hv
    clear hb hv HST
    by_cases hkn : k < n
    · have g1 : decide ((k : Int) < (n : Int)) = true := decide_eq_true (by omega)
      obtain ⟨x, hx⟩ : ∃ x, L[k]? = some x := ⟨_, List.getElem?_eq_getElem (by have := HLN.out; omega)⟩
      obtain ⟨b, off, rfl, hc⟩ := HAT.out.2.2 k x hx
      have c0 : wr.cell? ⟨b, off + k, none⟩ = some (.int .u64 (x : Int)) := cell_under HB.out hc
      have HX : Hid ((L.take (k + 1)).map vN = (L.take k).map vN ++ [vN x]) := Lib.hid (by rw [take_snoc' hx, List.map_append]; rfl)
      have HLL : Hid (((L.take k).map vN).length ≤ 100000) := Lib.hid (by rw [List.length_map, List.length_take]; omega)
      have HSZ : Hid (w2.heap.size ≤ wr.heap.size) := Lib.hid HB.out.size
      clear hx hc
      go_wp2_with (at_builtin; refine wpList_append_x rfl _ _ rfl rfl rfl (val_append _ HV.out (c := [.int .u64 (x : Int), .string ⟨#[]⟩, .slice none 0 0]) (x := vN x) ⟨rfl, rfl⟩ rfl (by intro u hu; simp at hu; rcases hu with rfl | rfl | rfl <;> rfl) HLL.out HSZ.out) ?_; rintro v2 w8 ⟨h8, h9, h10⟩; have H8 := Lib.hid h8; have H9 := Lib.hid ((HB.out.alloc HSZ.out _).grown h9 (Nat.le_trans HSZ.out (by simp)) (fun q hq => (ownL_blk HV.out q hq).1)); clear h8 h9 h10)
      go_roundw
      case rel => exact ⟨k + 1, v2, rfl, by go_num, by omega, H9.out, by rw [HX.out]; exact H8.out, own_more H8.out⟩
      case measure => simp [intOf]; omega
    · have g1 : decide ((k : Int) < (n : Int)) = false := decide_eq_false (by omega)
      have hkn2 : k = n := by omega
      obtain ⟨A9, n9, c9, rfl⟩ := ownL_slc HV.out
      have HE : Hid ((L.take k).map vN = (uo.getD []).map vN) := Lib.hid (by rw [← HLE.out, hkn2, HLN.out, List.take_length])
      clear hkn2
      go_wp2
      go_ret2
      refine ⟨A9, n9, c9, ok, rfl, HOK.out, HB2.out.trans (HB.out.mono HB2.out.size), ?_, q, own_blk0 HV.out HQ.out⟩
      rw [← HE.out]
      exact ownL_less HV.out HB2.out.size
/-- One value in a new row. -/
theorem own_one {R : List Value → Va → Prop} (w : World) {c : List Value} {x : Va} (hx : R c x) (hc : c.length = 3) (h1 : ∀ u ∈ c, u.oneCell' = true) : OwnL w.heap.size 65 3 R (w.alloc (.cells c.toArray 65)) (.slice (some ⟨w.heap.size, 0, none⟩) 1 1) [x] := by
  refine ⟨[c], rfl, fun j d y hd hy => ?_, ?_⟩
  · have hj : j = 0 := by have := (List.getElem?_eq_some_iff.mp hd).1; simp at this; exact this
    subst hj
    simp at hd hy
    subst hd hy
    exact ⟨hc, h1, hx⟩
  · have := World.ownsRow_lit (e := 65) (size := 3) w c.toArray 1 (Nat.le_refl _) (by decide) (by simp [hc])
    simpa using this
/-- What the program makes of what stands behind a tag. -/
def valsQ (f : Fd) (wire : Int) (n : Nat) (t : List UInt8) : Option (List Va) :=
  if wire ≠ wireT f.ty then (unpackO f t).map (fun l => l.map vN) else if f.ty = 12 ∧ Lib.validD t = false then none else some [⟨fromT f.ty n, t, []⟩]
theorem read_text_le (wire : Int) (bs : List UInt8) (s : St) : (readS wire bs s).1.2.length ≤ bs.length := by
  have ht : (s.rd tText [] bs).1.length ≤ bs.length := by
    unfold St.rd
    split
    · exact Nat.zero_le _
    · rename_i l r hf
      split
      · exact Nat.zero_le _
      · show (tText (segOf bs s.at_ l)).1.length ≤ _
        have hs : (segOf bs s.at_ l).length ≤ bs.length := by
          unfold segOf
          rw [List.length_drop, List.length_take]
          omega
        have : (tText (segOf bs s.at_ l)).1.length ≤ (segOf bs s.at_ l).length := by
          unfold tText
          dsimp only
          rw [List.length_take, List.length_drop]
          omega
        exact Nat.le_trans this hs
  unfold readS
  split
  · exact Nat.zero_le _
  · split
    · exact ht
    · split <;> exact Nat.zero_le _
theorem read_num_lt (wire : Int) (bs : List UInt8) (s : St) : (readS wire bs s).1.1 < 18446744073709551616 := by
  have h8 : (s.rd (tFix 8) 0 bs).1 < 18446744073709551616 := by
    have : ∀ b, (tFix 8 b).1 < 18446744073709551616 := fun b => by
      have := getN_lt 8 b
      unfold tFix
      simpa using this
    unfold St.rd
    split
    · exact Nat.zero_lt_succ _
    · split
      · exact Nat.zero_lt_succ _
      · exact this _
  have hv : (s.rd tVar 0 bs).1 < 18446744073709551616 := by
    unfold St.rd
    split
    · exact Nat.zero_lt_succ _
    · split
      · exact Nat.zero_lt_succ _
      · exact tVar_lt _
  have h4 := drd4_lt (bs := bs) (s := s)
  unfold readS
  split
  · exact h8
  · split
    · exact Nat.zero_lt_succ _
    · split
      · exact Nat.lt_trans h4 (by decide)
      · exact hv
/-- Where a cursor went. -/
def CurGo (W w : World) (p g : Nat) (bs : List UInt8) (s : St) (w' : World) : Prop := ∃ g', (g' = g ∨ g' ≥ w.heap.size) ∧ Cur W w' p g' bs s ∧ Only p g w w'
/-- What a call of values gives. -/
def ValsTo (W w : World) (p g : Nat) (bs : List UInt8) (s2 : St) (o : Option (List Va)) (e : Ending) (w' : World) : Prop :=
  ∃ B m d ok g', e = .returned (.tuple #[.slice B m d, .bool ok]) ∧ (g' = g ∨ w.heap.size ≤ g') ∧ Cur W w' p g' bs s2 ∧ Only p g w w' ∧ ok = o.isSome ∧ (∀ l, o = some l → OwnL w.heap.size 65 3 RV w' (.slice B m d) l ∧ ∃ q, B = some ⟨q, 0, none⟩) ∧ ∀ k, (Value.slice B m d).ownBlock = some k → w.heap.size ≤ k ∧ k ≠ g'
theorem cur_bel {W w : World} {p g : Nat} {bs : List UInt8} {s : St} (h : Cur W w p g bs s) : Below W.heap.size W w := h.1.2.2.2.2.2.1
set_option maxHeartbeats 8000000 in
theorem dvalues_any {W w : World} {p g : Nat} {bs : List UInt8} {s : St} (h : Cur W w p g bs s) (f : Fd) (wire : Int) (env : ScEnv W) (u8 : U8Env W) (hty : Int64 f.ty) (hl : bs.length ≤ 90000) (X Y : Value) (hX : X.oneCell' = true) (hY : Y.oneCell' = true) :
    Calls Tryz.prog 111 #[.agg #[X, Y, .pointer (some ⟨p, 0, none⟩)], fdV f, .int .i64 wire] w (ValsTo W w p g bs (readS wire bs s).2 (valsQ f wire (readS wire bs s).1.1 (readS wire bs s).1.2)) := by
  have hq := cur_bel h
  have hsz : W.heap.size ≤ w.heap.size := hq.size
  obtain ⟨w2, hw2⟩ : ∃ w2, w2 = (w.alloc (.cells #[X, Y, .pointer (some ⟨p, 0, none⟩)] 73)).alloc (.cells #[.string (strOf f.name), .int .i64 f.num, .int .i64 f.ty, .string (strOf f.ref), .bool f.rep, .bool f.loose, .string (strOf f.one)] 43) := ⟨_, rfl⟩
  obtain ⟨k1, k2, hb⟩ := box_two w (.cells #[X, Y, .pointer (some ⟨p, 0, none⟩)] 73) (.cells #[.string (strOf f.name), .int .i64 f.num, .int .i64 f.ty, .string (strOf f.ref), .bool f.rep, .bool f.loose, .string (strOf f.one)] 43)
  rw [heap_alloc_new] at k1 k2
  rw [← hw2] at k1 k2 hb
  have HRD := Lib.hid (dread_any (h.bel hb) wire)
  have hnl := read_num_lt wire bs s
  have htl : (readS wire bs s).1.2.length ≤ 90000 := Nat.le_trans (read_text_le wire bs s) hl
  obtain ⟨n, hn⟩ : ∃ n, n = (readS wire bs s).1.1 := ⟨_, rfl⟩
  obtain ⟨t, ht⟩ : ∃ t, t = (readS wire bs s).1.2 := ⟨_, rfl⟩
  obtain ⟨s2, hs2⟩ : ∃ s2, s2 = (readS wire bs s).2 := ⟨_, rfl⟩
  rw [← hn, ← ht, ← hs2] at HRD
  rw [← hn] at hnl
  rw [← ht] at htl
  rw [← hn, ← ht, ← hs2]
  have HU := Lib.hid (fun u (hb : Below W.heap.size W u) => dunpacked_any f t u (env.rides hb) hty htl)
  have HWI := Lib.hid (fun u (hb : Below W.heap.size W u) => pwire_any f.ty u (env.rides hb))
  have HFR := Lib.hid (fun u (hb : Below W.heap.size W u) => pnfrom_any f.ty n u (env.rides hb) hty hnl)
  have HVL := Lib.hid (fun u (hb : Below W.heap.size W u) => pvalid_any t (by omega) u (u8.goesOn hb))
  have HP : Hid (∀ o, o = valsQ f wire n t → o = if wire ≠ wireT f.ty then (unpackO f t).map (fun l => l.map vN) else if f.ty = 12 ∧ Lib.validD t = false then none else some [⟨fromT f.ty n, t, []⟩]) := Lib.hid (fun o e => e)
  obtain ⟨o, ho⟩ : ∃ o, o = valsQ f wire n t := ⟨_, rfl⟩
  replace HP := Lib.hid (HP.out o ho)
  rw [← ho]
  have r2 := obj_cell k1 2
  have HB := Lib.hid hb
  have HW2 := Lib.hid hw2
  have HK1 := Lib.hid k1
  have HK2 := Lib.hid k2
  have HQ := Lib.hid hq
  have HH := Lib.hid h
  have hpl : p < w.heap.size := h.1.2.2.2.1
  have HGL : Hid (g < w.heap.size) := Lib.hid h.1.2.2.2.2.1
  rw [hw2] at r2
  unfold fdV at HU ⊢
  generalize unpackO f t = uo at *
  generalize strOf f.name = s0 at *
  generalize strOf f.ref = s3 at *
  generalize strOf f.one = s6 at *
  obtain ⟨st, hst⟩ : ∃ st, st = strOf t := ⟨_, rfl⟩
  have HSTR := Lib.hid hst
  rw [← hst] at HRD HU HVL
  clear hst
  generalize Lib.validD t = vd at *
  obtain ⟨fn, hfn⟩ : ∃ z, z = fromT f.ty n := ⟨_, rfl⟩
  rw [← hfn] at HFR HP
  obtain ⟨wi, hwi⟩ : ∃ z, z = wireT f.ty := ⟨_, rfl⟩
  rw [← hwi] at HWI HP
  obtain ⟨ty, hty2⟩ : ∃ z, z = f.ty := ⟨_, rfl⟩
  rw [← hty2] at HU HWI HFR HK2 HW2 HP ⊢
  have HFIN : Hid (∀ (w6 w' : World) (B : Option Addr) (m d : Nat) (ok : Bool), CurGo W w2 p g bs s2 w6 → Below w6.heap.size w6 w' → ok = o.isSome → (∀ l, o = some l → OwnL w6.heap.size 65 3 RV w' (.slice B m d) l ∧ ∃ q, B = some ⟨q, 0, none⟩) → (∀ k, (Value.slice B m d).ownBlock = some k → w6.heap.size ≤ k) → ValsTo W w p g bs s2 o (.returned (.tuple #[.slice B m d, .bool ok])) w') := Lib.hid (fun w6 w' B m d ok hc hb6 hok hl6 hk6 => by
    obtain ⟨g', hg', hc', ho'⟩ := hc
    have h26 : w.heap.size ≤ w6.heap.size := Nat.le_trans HB.out.size ho'.size
    refine ⟨B, m, d, ok, g', rfl, ?_, hc'.bel hb6, ((Only.of_below HB.out).trans ho').trans (Only.of_below hb6), hok, fun l h => ⟨ownL_less (hl6 l h).1 h26, (hl6 l h).2⟩, fun k hk => ⟨Nat.le_trans h26 (hk6 k hk), fun e => ?_⟩⟩
    · rcases hg' with h | h
      · exact .inl h
      · exact .inr (Nat.le_trans HB.out.size h)
    · have := hk6 k hk
      have := hc'.1.2.2.2.2.1
      omega)
  have HBX : Hid (∀ w6, CurGo W w2 p g bs s2 w6 → w6.heap[w.heap.size + 1]? = some (.cells #[.string s0, .int .i64 f.num, .int .i64 ty, .string s3, .bool f.rep, .bool f.loose, .string s6] 43 (0, 0)) ∧ Below W.heap.size W w6) := Lib.hid (fun w6 hc => by
    obtain ⟨g', hg', hc', ho'⟩ := hc
    have k9 := HK2.out
    refine ⟨?_, cur_bel hc'⟩
    have hl9 := lt_of_block k9
    have := (ho'.block _ hl9 (by simp; omega) (by have := HGL.out; simp; omega)).trans k9
    simpa using this)
  clear h hq hsz k1 k2 hb hw2 hn ht hs2 env u8 hty hl ho hfn hwi hty2 hnl htl
  have hwn : (wire = wi ∧ (wire != wi) = false) ∨ (wire ≠ wi ∧ (wire != wi) = true) := by
    by_cases e : wire = wi
    · exact .inl ⟨e, by rw [e]; exact bne_self_eq_false' _⟩
    · exact .inr ⟨e, bne_iff_ne.2 e⟩
  have h12 : (ty = 12 ∧ (ty == 12) = true) ∨ (ty ≠ 12 ∧ (ty == 12) = false) := by
    by_cases e : ty = 12
    · exact .inl ⟨e, by rw [e]; rfl⟩
    · exact .inr ⟨e, beq_false_of_ne e⟩
  rcases hwn with ⟨e1, g1⟩ | ⟨e1, g1⟩
  · have E1 := Lib.hid e1
    clear e1
    rcases h12 with ⟨e2, g2⟩ | ⟨e2, g2⟩
    · have E2 := Lib.hid e2
      clear e2
      cases vd with
      | false =>
        have HO : Hid (o = none) := Lib.hid (by rw [HP.out, if_neg (fun h => h E1.out), if_pos ⟨E2.out, rfl⟩])
        go_enter Tryz.func111, Tryz.ntmps111
        go_wp2_with (first
          | (go_at_call 37; (with_reducible rw [← HW2.out]); refine HRD.out.mono ?_; rintro e w6 ⟨rfl, hc⟩; have HC : Hid (CurGo W w2 p g bs s2 w6) := Lib.hid hc; have HX6 := Lib.hid (HBX.out w6 HC.out); have q0 := obj_cell HX6.out.1 0; have q1 := obj_cell HX6.out.1 1; have q2 := obj_cell HX6.out.1 2; have q3 := obj_cell HX6.out.1 3; have q4 := obj_cell HX6.out.1 4; have q5 := obj_cell HX6.out.1 5; have q6 := obj_cell HX6.out.1 6; clear hc r2)
          | (go_at_call 38; refine (HWI.out _ HX6.out.2).mono ?_; rintro e w7 ⟨rfl, hb⟩; have HB7 := Lib.hid hb; have HX7 := Lib.hid (HX6.out.2.trans (hb.mono HX6.out.2.size)); have k7 := (hb.block _ (lt_of_block HX6.out.1)).trans HX6.out.1; have p0 := obj_cell k7 0; have p1 := obj_cell k7 1; have p2 := obj_cell k7 2; have p3 := obj_cell k7 3; have p4 := obj_cell k7 4; have p5 := obj_cell k7 5; have p6 := obj_cell k7 6; have HK7 := Lib.hid k7; clear hb k7)
          | (go_at_call 117; refine (HVL.out _ HX7.out).mono ?_; rintro e w8 ⟨rfl, hb⟩; have HB8 := Lib.hid (vbel HB7.out hb); have HX8 := Lib.hid (HX7.out.trans (hb.mono HX7.out.size)); have k8 := (hb.block _ (lt_of_block HK7.out)).trans HK7.out; have o2 := obj_cell k8 2; clear hb k8)
          | (go_at_call 39; first | (refine (HFR.out _ HX8.out).mono ?_; rintro e w9 ⟨rfl, hb⟩; have HB9 := Lib.hid (vbel HB8.out hb); clear hb) | (refine (HFR.out _ HX7.out).mono ?_; rintro e w9 ⟨rfl, hb⟩; have HB9 := Lib.hid (vbel HB7.out hb); clear hb)))
        go_ret2
        exact HFIN.out w6 _ none 0 0 false HC.out HB8.out (by rw [HO.out]; rfl) (fun l h => by rw [HO.out] at h; cases h) (fun k hk => by simp [Value.ownBlock] at hk)
      | true =>
        have HO : Hid (o = some [⟨fn, t, []⟩]) := Lib.hid (by rw [HP.out, if_neg (fun h => h E1.out), if_neg (fun h => by cases h.2)])
        go_enter Tryz.func111, Tryz.ntmps111
        go_wp2_with (first
          | (go_at_call 37; (with_reducible rw [← HW2.out]); refine HRD.out.mono ?_; rintro e w6 ⟨rfl, hc⟩; have HC : Hid (CurGo W w2 p g bs s2 w6) := Lib.hid hc; have HX6 := Lib.hid (HBX.out w6 HC.out); have q0 := obj_cell HX6.out.1 0; have q1 := obj_cell HX6.out.1 1; have q2 := obj_cell HX6.out.1 2; have q3 := obj_cell HX6.out.1 3; have q4 := obj_cell HX6.out.1 4; have q5 := obj_cell HX6.out.1 5; have q6 := obj_cell HX6.out.1 6; clear hc r2)
          | (go_at_call 38; refine (HWI.out _ HX6.out.2).mono ?_; rintro e w7 ⟨rfl, hb⟩; have HB7 := Lib.hid hb; have HX7 := Lib.hid (HX6.out.2.trans (hb.mono HX6.out.2.size)); have k7 := (hb.block _ (lt_of_block HX6.out.1)).trans HX6.out.1; have p0 := obj_cell k7 0; have p1 := obj_cell k7 1; have p2 := obj_cell k7 2; have p3 := obj_cell k7 3; have p4 := obj_cell k7 4; have p5 := obj_cell k7 5; have p6 := obj_cell k7 6; have HK7 := Lib.hid k7; clear hb k7)
          | (go_at_call 117; refine (HVL.out _ HX7.out).mono ?_; rintro e w8 ⟨rfl, hb⟩; have HB8 := Lib.hid (vbel HB7.out hb); have HX8 := Lib.hid (HX7.out.trans (hb.mono HX7.out.size)); have k8 := (hb.block _ (lt_of_block HK7.out)).trans HK7.out; have o2 := obj_cell k8 2; clear hb k8)
          | (go_at_call 39; first | (refine (HFR.out _ HX8.out).mono ?_; rintro e w9 ⟨rfl, hb⟩; have HB9 := Lib.hid (vbel HB8.out hb); clear hb) | (refine (HFR.out _ HX7.out).mono ?_; rintro e w9 ⟨rfl, hb⟩; have HB9 := Lib.hid (vbel HB7.out hb); clear hb)))
        go_ret2
        refine HFIN.out w6 _ _ _ _ _ HC.out (HB9.out.alloc HB9.out.size _) (by rw [HO.out]; rfl) (fun l h => ?_) (fun k hk => ?_)
        · rw [HO.out] at h
          cases h
          refine ⟨ownL_less (own_one w9 (R := RV) (c := [.int .u64 (fn : Int), .string st, .slice none 0 0]) ⟨rfl, by rw [HSTR.out]⟩ rfl (by intro u hu; simp at hu; rcases hu with rfl | rfl | rfl <;> rfl)) HB9.out.size, _, rfl⟩
        · have e : k = w9.heap.size := by simpa [Value.ownBlock] using hk.symm
          rw [e]; exact HB9.out.size
    · have E2 := Lib.hid e2
      clear e2
      have HO : Hid (o = some [⟨fn, t, []⟩]) := Lib.hid (by rw [HP.out, if_neg (fun h => h E1.out), if_neg (fun h => E2.out h.1)])
      go_enter Tryz.func111, Tryz.ntmps111
      go_wp2_with (first
        | (go_at_call 37; (with_reducible rw [← HW2.out]); refine HRD.out.mono ?_; rintro e w6 ⟨rfl, hc⟩; have HC : Hid (CurGo W w2 p g bs s2 w6) := Lib.hid hc; have HX6 := Lib.hid (HBX.out w6 HC.out); have q0 := obj_cell HX6.out.1 0; have q1 := obj_cell HX6.out.1 1; have q2 := obj_cell HX6.out.1 2; have q3 := obj_cell HX6.out.1 3; have q4 := obj_cell HX6.out.1 4; have q5 := obj_cell HX6.out.1 5; have q6 := obj_cell HX6.out.1 6; clear hc r2)
        | (go_at_call 38; refine (HWI.out _ HX6.out.2).mono ?_; rintro e w7 ⟨rfl, hb⟩; have HB7 := Lib.hid hb; have HX7 := Lib.hid (HX6.out.2.trans (hb.mono HX6.out.2.size)); have k7 := (hb.block _ (lt_of_block HX6.out.1)).trans HX6.out.1; have p0 := obj_cell k7 0; have p1 := obj_cell k7 1; have p2 := obj_cell k7 2; have p3 := obj_cell k7 3; have p4 := obj_cell k7 4; have p5 := obj_cell k7 5; have p6 := obj_cell k7 6; have HK7 := Lib.hid k7; clear hb k7)
        | (go_at_call 117; refine (HVL.out _ HX7.out).mono ?_; rintro e w8 ⟨rfl, hb⟩; have HB8 := Lib.hid (vbel HB7.out hb); have HX8 := Lib.hid (HX7.out.trans (hb.mono HX7.out.size)); have k8 := (hb.block _ (lt_of_block HK7.out)).trans HK7.out; have o2 := obj_cell k8 2; clear hb k8)
        | (go_at_call 39; first | (refine (HFR.out _ HX8.out).mono ?_; rintro e w9 ⟨rfl, hb⟩; have HB9 := Lib.hid (vbel HB8.out hb); clear hb) | (refine (HFR.out _ HX7.out).mono ?_; rintro e w9 ⟨rfl, hb⟩; have HB9 := Lib.hid (vbel HB7.out hb); clear hb)))
      go_ret2
      refine HFIN.out w6 _ _ _ _ _ HC.out (HB9.out.alloc HB9.out.size _) (by rw [HO.out]; rfl) (fun l h => ?_) (fun k hk => ?_)
      · rw [HO.out] at h
        cases h
        refine ⟨ownL_less (own_one w9 (R := RV) (c := [.int .u64 (fn : Int), .string st, .slice none 0 0]) ⟨rfl, by rw [HSTR.out]⟩ rfl (by intro u hu; simp at hu; rcases hu with rfl | rfl | rfl <;> rfl)) HB9.out.size, _, rfl⟩
      · have e : k = w9.heap.size := by simpa [Value.ownBlock] using hk.symm
        rw [e]; exact HB9.out.size
  · have E1 := Lib.hid e1
    clear e1
    have HO : Hid (o = uo.map (fun l => l.map vN)) := Lib.hid (by rw [HP.out, if_pos E1.out])
    go_enter Tryz.func111, Tryz.ntmps111
    go_wp2_with (first
      | (go_at_call 37; (with_reducible rw [← HW2.out]); refine HRD.out.mono ?_; rintro e w6 ⟨rfl, hc⟩; have HC : Hid (CurGo W w2 p g bs s2 w6) := Lib.hid hc; have HX6 := Lib.hid (HBX.out w6 HC.out); have q0 := obj_cell HX6.out.1 0; have q1 := obj_cell HX6.out.1 1; have q2 := obj_cell HX6.out.1 2; have q3 := obj_cell HX6.out.1 3; have q4 := obj_cell HX6.out.1 4; have q5 := obj_cell HX6.out.1 5; have q6 := obj_cell HX6.out.1 6; clear hc r2)
      | (go_at_call 38; refine (HWI.out _ HX6.out.2).mono ?_; rintro e w7 ⟨rfl, hb⟩; have HB7 := Lib.hid hb; have HX7 := Lib.hid (HX6.out.2.trans (hb.mono HX6.out.2.size)); have k7 := (hb.block _ (lt_of_block HX6.out.1)).trans HX6.out.1; have p0 := obj_cell k7 0; have p1 := obj_cell k7 1; have p2 := obj_cell k7 2; have p3 := obj_cell k7 3; have p4 := obj_cell k7 4; have p5 := obj_cell k7 5; have p6 := obj_cell k7 6; have HK7 := Lib.hid k7; clear hb k7)
      | (go_at_call 145; refine (HU.out _ HX7.out).mono ?_; rintro e w8 ⟨B, m, d, ok, rfl, hok, hb, hl, hq⟩; have HQ8 := Lib.hid hq; have HOK := Lib.hid hok; have HB8 := Lib.hid (vbel HB7.out hb); have HL := Lib.hid (ownL_less hl HB7.out.size); clear hok hb hl hq))
    go_ret2
    refine HFIN.out w6 _ _ _ _ _ HC.out HB8.out (by rw [HO.out, HOK.out]; cases uo <;> rfl) (fun l h => ?_) (fun k hk => (ownL_blk HL.out k hk).1)
    rw [HO.out] at h
    cases huo : uo with
    | none => rw [huo] at h; cases h
    | some l0 =>
      rw [huo] at h
      cases h
      have := HL.out
      rw [huo] at this
      exact ⟨this, HQ8.out⟩
end Go.Proofs.YtpfdnggacpehdaaGreatDoor
