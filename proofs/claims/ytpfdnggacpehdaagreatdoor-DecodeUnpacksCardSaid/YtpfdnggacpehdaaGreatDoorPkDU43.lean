/- Several texts in one: PdF. What each proves, and its conditions, stands at its own head. -/
import Derived.Test.YtpfdnggacpehdaaGreatDoorPkDU37
import Derived.Test.YtpfdnggacpehdaaGreatDoorPkDU29
import Derived.Test.YtpfdnggacpehdaaGreatDoorPkDU13
import Derived.Test.YtpfdnggacpehdaaGreatDoorPkDU42
import Derived.Test.YtpfdnggacpehdaaGreatDoorPkDU24
import Derived.Test.YtpfdnggacpehdaaGreatDoorPkDU7
import Derived.Test.YtpfdnggacpehdaaGreatDoorPkDU22
/- The landed layer 22: what stands behind a tag; Unpack. Conditions: those that each theorem names. -/
namespace Go.Proofs.YtpfdnggacpehdaaGreatDoor
open Go.RowKit
set_option linter.unusedVariables false
set_option maxRecDepth 100000

theorem dwire_ways (wire : Int) : (wire = 1) ∨ ((wire == 1) = false ∧ wire = 2) ∨ ((wire == 1) = false ∧ (wire == 2) = false ∧ wire = 5) ∨ ((wire == 1) = false ∧ (wire == 2) = false ∧ (wire == 5) = false) := by
  by_cases h1 : wire = 1
  · exact .inl h1
  · by_cases h2 : wire = 2
    · exact .inr (.inl ⟨beq_false_of_ne h1, h2⟩)
    · by_cases h5 : wire = 5
      · exact .inr (.inr (.inl ⟨beq_false_of_ne h1, beq_false_of_ne h2, h5⟩))
      · exact .inr (.inr (.inr ⟨beq_false_of_ne h1, beq_false_of_ne h2, beq_false_of_ne h5⟩))
theorem dfix4_lt (b : List UInt8) : (tFix 4 b).1 < 4294967296 := by
  have := getN_lt 4 b
  unfold tFix
  simpa using this
theorem drd4_lt {bs : List UInt8} {s : St} : (s.rd (tFix 4) 0 bs).1 < 4294967296 := by
  unfold St.rd
  split
  · exact Nat.zero_lt_succ _
  · rename_i l r hf
    split
    · exact Nat.zero_lt_succ _
    · exact dfix4_lt _
set_option maxHeartbeats 4000000 in
theorem dread_any {W w : World} {p g : Nat} {bs : List UInt8} {s : St} (h : Cur W w p g bs s) (wire : Int) :
    Calls Tryz.prog 37 #[.pointer (some ⟨p, 0, none⟩), .int .i64 wire] w (CurTo W w p g bs (readS wire bs s).2 (.tuple #[.int .u64 ((readS wire bs s).1.1 : Int), .string (strOf (readS wire bs s).1.2)])) := by
  have HV := Lib.hid (varint_cur h)
  have H4 := Lib.hid (four_cur h)
  have H8 := Lib.hid (eight_cur h)
  have HT := Lib.hid (text_cur h)
  have hR : Hid (∀ (n : Nat) (t : List UInt8) (s2 : St), readS wire bs s = ((n, t), s2) → CurTo W w p g bs (readS wire bs s).2 (.tuple #[.int .u64 ((readS wire bs s).1.1 : Int), .string (strOf (readS wire bs s).1.2)]) = CurTo W w p g bs s2 (.tuple #[.int .u64 (n : Int), .string (strOf t)])) := Lib.hid (fun n t s2 e => by rw [e])
  have HE : Hid (strOf [] = ⟨#[]⟩) := Lib.hid rfl
  clear h
  rcases dwire_ways wire with h1 | ⟨h1, h2⟩ | ⟨h1, h2, h5⟩ | ⟨h1, h2, h5⟩
  · have e := hR.out _ _ _ (by unfold readS; rw [if_pos h1])
    rw [e]
    subst h1
    clear e hR
    go_enter Tryz.func37, Tryz.ntmps37
    go_wp2_with (go_at_call 80; refine H8.out.mono ?_; rintro e w2 ⟨rfl, hc⟩; have HC := Lib.hid hc; clear hc)
    go_ret2
    exact ⟨by rw [HE.out]; rfl, HC.out⟩
  · have e := hR.out _ _ _ (by unfold readS; rw [if_neg (by omega), if_pos h2])
    rw [e]
    subst h2
    clear e hR
    go_enter Tryz.func37, Tryz.ntmps37
    go_wp2_with (go_at_call 81; refine HT.out.mono ?_; rintro e w2 ⟨rfl, hc⟩; have HC := Lib.hid hc; clear hc)
    go_ret2
    exact ⟨rfl, HC.out⟩
  · have e := hR.out _ _ _ (by unfold readS; rw [if_neg (by omega), if_neg (by omega), if_pos h5])
    rw [e]
    subst h5
    have hlt := drd4_lt (bs := bs) (s := s)
    obtain ⟨n4, hn4⟩ : ∃ z, z = (s.rd (tFix 4) 0 bs).1 := ⟨_, rfl⟩
    rw [← hn4] at hlt H4 ⊢
    clear e hR hn4
    go_enter Tryz.func37, Tryz.ntmps37
    go_wp2_with (go_at_call 82; refine H4.out.mono ?_; rintro e w2 ⟨rfl, hc⟩; have HC := Lib.hid hc; clear hc)
    go_ret2
    exact ⟨by rw [HE.out]; rfl, HC.out⟩
  · have e := hR.out _ _ _ (by unfold readS; rw [if_neg (by intro e; rw [e] at h1; exact absurd h1 (by decide)), if_neg (by intro e; rw [e] at h2; exact absurd h2 (by decide)), if_neg (by intro e; rw [e] at h5; exact absurd h5 (by decide))])
    rw [e]
    clear e hR
    go_enter Tryz.func37, Tryz.ntmps37
    go_wp2_with (go_at_call 83; refine HV.out.mono ?_; rintro e w2 ⟨rfl, hc⟩; have HC := Lib.hid hc; clear hc)
    go_ret2
    exact ⟨by rw [HE.out]; rfl, HC.out⟩

/-- The program's Unpack between two rounds: the cursor, and the numbers so far in a row of the call's own. -/
structure UnC (W wr : World) (p g : Nat) (bs : List UInt8) (s : St) (acc : List Nat) (vo : Value) : Prop where
  uc_cur : Cur W wr p g bs s
  uc_out : wr.ownsRow W.heap.size 62 1 vo acc.length (u64s acc)
  uc_off : ∀ k, vo.ownBlock = some k → k ≠ p ∧ k ≠ g
section
variable {W wr w2 : World} {p g : Nat} {bs : List UInt8} {s s2 : St} {acc : List Nat} {vo v : Value} {e : Ending}
theorem UnC.later (h : UnC W wr p g bs s acc vo) {w' : World} (hb : Below wr.heap.size wr w') : UnC W w' p g bs s acc vo := ⟨h.uc_cur.bel hb, own_below h.uc_out hb, h.uc_off⟩
theorem UnC.reads (h : UnC W wr p g bs s acc vo) (hr : CurTo W wr p g bs s2 v e w2) : e = .returned v ∧ ∃ g2, UnC W w2 p g2 bs s2 acc vo := by
  obtain ⟨he, g2, hg2, hc, ho⟩ := hr
  have ho2 := own_block (w' := w2) h.uc_out (fun k hk => ho.block k (h.uc_out.lt k hk).2 (h.uc_off k hk).1 (h.uc_off k hk).2)
  refine ⟨he, g2, hc, ho2, fun k hk => ⟨(h.uc_off k hk).1, fun e => ?_⟩⟩
  rcases hg2 with rfl | hg2
  · exact (h.uc_off k hk).2 e
  · have := (h.uc_out.lt k hk).2
    omega
/-- Behind an append to the row. -/
theorem UnC.grown (h : UnC W wr p g bs s acc vo) {w6 : World} {o : Obj} {acc2 : List Nat} {v2 : Value} (hg : (wr.alloc o).grownBy w6 vo.ownBlock) (hm : Moved (wr.alloc o) vo v2) (ho : w6.ownsRow W.heap.size 62 1 v2 acc2.length (u64s acc2)) : UnC W w6 p g bs s acc2 v2 := by
  have hb : Below wr.heap.size wr (wr.alloc o) := (Below.refl _ wr).alloc (Nat.le_refl _) o
  have hc := h.uc_cur.bel hb
  have hp := hc.1.2.2.2.1
  have hgl := hc.1.2.2.2.2.1
  refine ⟨hc.keep hg.size (hc.1.2.2.2.2.2.1.grown hg hc.1.2.2.2.2.2.1.size (fun k hk => (h.uc_out.lt k hk).1)) (hg.block _ hp (fun e => (h.uc_off p e.symm).1 rfl)) (hg.block _ hgl (fun e => (h.uc_off g e.symm).2 rfl)), ho, fun k hk => ?_⟩
  rcases hm with hm | ⟨q, hm, hq⟩
  · exact h.uc_off k (by rw [← hm]; exact hk)
  · rw [hk] at hm
    cases hm
    omega
end
theorem unc_append {W wr : World} {p g : Nat} {bs : List UInt8} {s : St} {acc : List Nat} {vo : Value} (h : UnC W wr p g bs s acc vo) (fn : Nat) (hl : acc.length ≤ 1000001) (ty : TypeId) :
    ∃ v' w', (Builtin.append_ #[44, 44] ty #[vo, .slice (some ⟨wr.heap.size, 0, none⟩) 1 1]).run Tryz.prog (wr.alloc (.cells #[.int .u64 (fn : Int)] 62)) = .ok v' w' ∧ (UnC W w' p g bs s (acc ++ [fn]) v' ∧ sliceLen v' = acc.length + 1) := by
  obtain ⟨i0, hi, hz0, hz1, hz2⟩ := info_parts info_u64
  obtain ⟨v', w', hr, ho, hg, hm⟩ := run_append_own2 (P := Tryz.prog) (wr.alloc (.cells #[.int .u64 (fn : Int)] 62)) W.heap.size 44 ty 62 i0 (.int .u64 0) 1 8 Tryz.underlying44 hi hz0 hz1 hz2 rfl (by decide) vo acc.length (u64s acc) (own_below h.uc_out ((Below.refl _ wr).alloc (Nat.le_refl _) _)) ⟨wr.heap.size, 0, none⟩ 1 1 [.int .u64 (fn : Int)] rfl (cell_one_new _ _ _) (one_u64 _) (by unfold maxLen; omega) (by omega) (by have := h.uc_cur.1.2.2.2.2.2.1.size; simp; omega)
  rw [u64s_snoc] at ho
  have ho2 : w'.ownsRow W.heap.size 62 1 v' (acc ++ [fn]).length (u64s (acc ++ [fn])) := by rw [List.length_append]; exact ho
  refine ⟨v', w', hr, h.grown hg hm ho2, ?_⟩
  obtain ⟨A9, c9, e9, _⟩ := own_form ho
  rw [e9]; rfl
theorem read_take {ty : Int} (h : wireT ty ≠ 2) (bs : List UInt8) (s : St) : readS (wireT ty) bs s = (((s.rd (takeT ty) 0 bs).1, []), (s.rd (takeT ty) 0 bs).2) := by
  unfold readS takeT
  by_cases h1 : wireT ty = 1
  · rw [if_pos h1, if_pos h1]
  · rw [if_neg h1, if_neg h1, if_neg h]
    by_cases h5 : wireT ty = 5
    · rw [if_pos h5, if_pos h5]
    · rw [if_neg h5, if_neg h5]
set_option maxHeartbeats 8000000 in
theorem dunpack_any (f : Fd) (t : List UInt8) (w : World) (env : ScEnv w) (hty : Int64 f.ty) (hl : t.length ≤ 1000000) : Calls Tryz.prog 14 #[fdV f, .string (strOf t)] w (UnpTo w (unpackO f t)) := by
  have HN := Lib.hid (fun w' (hb : Below w.heap.size w w') => pnumber_any f.ty w' (env.rides hb))
  have HWI := Lib.hid (fun w' (hb : Below w.heap.size w w') => pwire_any f.ty w' (env.rides hb))
  have HFR := Lib.hid (fun n w' (hb : Below w.heap.size w w') (hn : n < 18446744073709551616) => pnfrom_any f.ty n w' (env.rides hb) hty hn)
  have HUO : Hid (unpackO f t = if numberT f.ty = true then (if (unpS f.ty t).2 = true then some (unpS f.ty t).1 else none) else none) := Lib.hid rfl
  obtain ⟨name, num, ty, ref, rep, loose, one⟩ := f
  unfold fdV
  dsimp only at HN HWI HFR HUO ⊢
  generalize unpackO ⟨name, num, ty, ref, rep, loose, one⟩ t = uo at *
  generalize strOf name = s0 at *
  generalize strOf ref = s3 at *
  generalize strOf one = s6 at *
  clear env hty
  obtain ⟨wf, hwf⟩ : ∃ wf, wf = w.alloc (.cells #[.string s0, .int .i64 num, .int .i64 ty, .string s3, .bool rep, .bool loose, .string s6] 43) := ⟨_, rfl⟩
  have hbf : Below w.heap.size w wf := by rw [hwf]; exact (Below.refl _ w).alloc (Nat.le_refl _) _
  have hfb : wf.heap[w.heap.size]? = some (.cells #[.string s0, .int .i64 num, .int .i64 ty, .string s3, .bool rep, .bool loose, .string s6] 43 (0, 0)) := by rw [hwf]; exact heap_alloc_new w _
  cases hnum : numberT ty with
  | false =>
    have HNW := Lib.hid (HN.out wf hbf)
    rw [hnum] at HNW
    rw [hnum, if_neg (by decide)] at HUO
    have r0 := obj_cell hfb 2
    rw [hwf] at r0 HNW
    have HB := Lib.hid hbf
    rw [hwf] at HB
    clear hfb hbf hwf
    go_enter Tryz.func14, Tryz.ntmps14
    go_wp2_with (go_at_call 35; refine HNW.out.mono ?_; rintro e w2 ⟨rfl, hb⟩; have HB2 := Lib.hid (HB.out.trans (hb.mono HB.out.size)); clear hb)
    go_ret2
    exact ⟨none, 0, 0, false, rfl, HB2.out, (fun l h => by rw [HUO.out] at h; cases h), fun _ => ⟨rfl, rfl, rfl, rfl⟩⟩
  | true =>
    have hw2 : wireT ty ≠ 2 := wire_2 hnum
    have HNW := Lib.hid (HN.out wf hbf)
    rw [hnum] at HNW
    rw [hnum, if_pos rfl] at HUO
    have r0 := obj_cell hfb 2
    have HB := Lib.hid hbf
    have HFB := Lib.hid hfb
    rw [hwf] at r0 HNW
    have hcv : ∀ w1, (convert 9 26 (.string (strOf t))).run Tryz.prog w1 = .ok (.slice (some ⟨w1.heap.size, 0, none⟩) t.length (grownCap w1 t.length 0 5)) (Lib.bytesWorld w1 5 (strOf t)) := fun w1 => run_bytes t w1
    have HBB := Lib.hid (fun w1 => bytes_below w1 t)
    have HFROM := Lib.hid (fun w1 => from_any (some ⟨w1.heap.size, 0, none⟩) t.length (grownCap w1 t.length 0 5) t (Lib.bytesWorld w1 5 (strOf t)) rfl (bytes_bs w1 t (by unfold maxLen; omega)) (by omega))
    have HWF := Lib.hid hwf
    clear hfb hbf hwf
    go_enter Tryz.func14, Tryz.ntmps14
    go_wp2_with (first
      | (go_at_call 35; refine HNW.out.mono ?_; rintro e w2 ⟨rfl, hb⟩; have HB2 := Lib.hid (by rw [← HWF.out] at hb; exact hb : Below wf.heap.size wf w2); clear hb)
      | (go_at_call 29; refine (HFROM.out _).mono ?_; rintro e w3 ⟨W, p, g, rfl, hbW, hb3, hc⟩; have HC := Lib.hid hc; have HBW3 := Lib.hid (vbel HB.out (vbel HB2.out (vbel (HBB.out w2) hbW))); have HWW := Lib.hid (vbel HB2.out (vbel (HBB.out w2) hbW)); have HB3 := Lib.hid (vbel HB2.out (vbel (HBB.out w2) hb3)); clear hc hbW hb3))
    have HU1 : Hid (UnC W w3 p g t ⟨0, [t.length]⟩ [] (.slice none 0 0)) := Lib.hid ⟨HC.out, World.ownsRow_nil _ _ _ _, fun k hk => by simp [Value.ownBlock] at hk⟩
    clear r0 hcv HFROM HNW HC
    go_loopw [6, 8, 9] (fun x6 x8 x9 wr => ∃ s acc g vo, vo = x6 ∧ UnC W wr p g t s acc vo ∧ (HalfN ty t s acc ∨ (s.fr = [] ∧ uo = none ∧ acc.length ≤ t.length + 1))) (fun x6 _ _ _ => t.length + 2 - sliceLen x6)
    case atStart => exact ⟨_, _, _, _, rfl, HU1.out, .inl (halfN_start ty t)⟩
    case round =>
      obtain ⟨s, acc, g, vo, rfl, hat, hor⟩ := hrel
      clear HU1
      have HM := Lib.hid (more_cur hat.uc_cur)
      have HOK := Lib.hid (fun n => ok_cur (hat.uc_cur.bel (drawn_below wr n)))
      have HAT := Lib.hid hat
      have HBWR := Lib.hid hat.uc_cur.1.2.2.2.2.2.1
      cases hm : s.more with
      | false =>
        rw [hm] at HM
        rcases hor with hhalf | ⟨hfr, hnone, -⟩
        · have hd := hhalf.done hm
          have hok : s.oks = true := by unfold St.oks; rw [hhalf.n_fr]; rfl
          rw [hok] at HOK
          have HD : Hid (uo = some acc) := Lib.hid (by rw [HUO.out, hd, if_pos rfl])
          obtain ⟨hn9, A9, c9, hv9, hs9⟩ := Sl.own hat.uc_out
          subst hv9
          have HSL := Lib.hid hs9
          clear hat hm hd hs9 hn9 hok hhalf
          go_wp2_with (first
            | (go_at_call 36; refine HM.out.mono ?_; rintro e w4 ⟨rfl, m, rfl⟩)
            | (go_at_call 40; refine (HOK.out _).mono ?_; rintro e w5 ⟨rfl, rfl⟩))
          go_ret2
          refine ⟨A9, _, c9, true, rfl, HBW3.out.trans ((HBWR.out.trans ((drawn_bel _ _).mono HBWR.out.size)).mono HBW3.out.size), fun l h => ?_, fun h => by rw [HD.out] at h; cases h⟩
          rw [HD.out] at h
          cases h
          exact ⟨rfl, by rw [u64s_length], HSL.out.keep (fun q hq => (drawn_bel _ _).cell hq)⟩
        · have hok : s.oks = false := by unfold St.oks; rw [hfr]; rfl
          rw [hok] at HOK
          have HD : Hid (uo = none) := Lib.hid hnone
          clear hat hm hok hfr hnone
          go_wp2_with (first
            | (go_at_call 36; refine HM.out.mono ?_; rintro e w4 ⟨rfl, m, rfl⟩)
            | (go_at_call 40; refine (HOK.out _).mono ?_; rintro e w5 ⟨rfl, rfl⟩))
          go_ret2
          exact ⟨none, 0, 0, false, rfl, HBW3.out.trans ((HBWR.out.trans ((drawn_bel _ _).mono HBWR.out.size)).mono HBW3.out.size), (fun l h => by rw [HD.out] at h; cases h), fun _ => ⟨rfl, rfl, rfl, rfl⟩⟩
      | true =>
        rw [hm] at HM
        have hhalf : HalfN ty t s acc := by
          rcases hor with h | ⟨hfr, _⟩
          · exact h
          · unfold St.more at hm; rw [hfr] at hm; cases hm
        obtain ⟨s2, hs2⟩ : ∃ s2, s2 = (s.rd (takeT ty) 0 t).2 := ⟨_, rfl⟩
        obtain ⟨n, hn⟩ : ∃ n, n = (s.rd (takeT ty) 0 t).1 := ⟨_, rfl⟩
        have hn64 : n < 18446744073709551616 := by rw [hn]; exact rd_lt
        have HN64 := Lib.hid hn64
        have HBX : Hid (∀ u, Below wr.heap.size wr u → Below wf.heap.size wf u) := Lib.hid (fun u hb => vbel HWW.out (hat.uc_cur.1.2.2.2.2.2.1.trans (hb.mono hat.uc_cur.1.2.2.2.2.2.1.size)))
        have HTY : Hid (∀ u, Below wf.heap.size wf u → u.cell? ⟨w.heap.size, 2, none⟩ = some (.int .i64 ty)) := Lib.hid (fun u hb => obj_cell ((hb.block _ (lt_of_block HFB.out)).trans HFB.out) 2)
        have HRD : Hid (∀ u, Below wr.heap.size wr u → Calls Tryz.prog 37 #[.pointer (some ⟨p, 0, none⟩), .int .i64 (wireT ty)] u fun e w' => e = .returned (.tuple #[.int .u64 (n : Int), .string ⟨#[]⟩]) ∧ ∃ g2, UnC W w' p g2 t s2 acc vo) := Lib.hid (fun u hb => (dread_any (hat.later hb).uc_cur (wireT ty)).mono (fun e w' hc => by
          rw [read_take hw2] at hc
          rw [hn, hs2]
          exact (hat.later hb).reads hc))
        obtain ⟨fn, hfn⟩ : ∃ fn, fn = fromT ty n := ⟨_, rfl⟩
        have HFN : Hid (∀ u, Below wf.heap.size wf u → Calls Tryz.prog 39 #[.int .i64 ty, .int .u64 (n : Int)] u fun e w' => e = .returned (.int .u64 (fn : Int)) ∧ Below u.heap.size u w') := Lib.hid (fun u hb => by rw [hfn]; exact HFR.out n u (vbel HB.out hb) HN64.out)
        have HWW2 : Hid (∀ u, Below wf.heap.size wf u → Calls Tryz.prog 38 #[.int .i64 ty] u fun e w' => e = .returned (.int .i64 (wireT ty)) ∧ Below u.heap.size u w') := Lib.hid (fun u hb => HWI.out u (vbel HB.out hb))
        have HSLN : Hid (sliceLen vo = acc.length) := Lib.hid (by obtain ⟨A9, c9, e9, _⟩ := own_form hat.uc_out; rw [e9]; rfl)
        have hln := hhalf.len
        have HAL : Hid (acc.length + 1 ≤ 1000001) := Lib.hid (by omega)
        have HALT : Hid (acc.length ≤ t.length) := Lib.hid hln
        have HNX : Hid (HalfN ty t s2 (acc ++ [fn]) ∨ (s2.fr = [] ∧ uo = none ∧ (acc ++ [fn]).length ≤ t.length + 1)) := Lib.hid (by
          by_cases hbad : s2.fr = []
          · refine .inr ⟨hbad, ?_, by rw [List.length_append, List.length_singleton]; omega⟩
            have hd := hhalf.fail hm (by rw [← hs2]; exact hbad)
            rw [HUO.out, hd, if_neg (by decide)]
          · have := hhalf.step hm (by rw [← hs2]; exact hbad)
            rw [← hs2, ← hn, ← hfn] at this
            exact .inl this)
        obtain ⟨wi, hwi⟩ : ∃ z, z = wireT ty := ⟨_, rfl⟩
        rw [← hwi] at HRD HWW2
        have x0 := HTY.out _ (HBX.out _ (Below.refl _ _))
        have x0d : ∀ m, (wr.drewN m).cell? ⟨w.heap.size, 2, none⟩ = some (.int .i64 ty) := fun m => HTY.out _ (HBX.out _ (drawn_below wr m))
        clear hat hm hs2 hn hn64 hfn hln hhalf hwi hor
        go_wp2_with (first
          | (go_at_call 36; refine HM.out.mono ?_; rintro e w4 ⟨rfl, m, rfl⟩)
          | (go_at_call 38; refine (HWW2.out _ (HBX.out _ (drawn_below wr _))).mono ?_; rintro e w5 ⟨rfl, hb⟩; have HB5 := Lib.hid (vbel (drawn_below wr m) hb); clear hb)
          | (go_at_call 37; refine (HRD.out _ HB5.out).mono ?_; rintro e w6 ⟨rfl, g2, h6⟩; have H6 := Lib.hid h6; have HB6 := Lib.hid (vbel HWW.out h6.uc_cur.1.2.2.2.2.2.1); have y0 := HTY.out _ HB6.out; clear h6)
          | (go_at_call 39; refine (HFN.out _ HB6.out).mono ?_; rintro e w7 ⟨rfl, hb⟩; have H7 := Lib.hid (H6.out.later hb); clear hb)
          | (at_builtin; refine wpList_append_x rfl _ _ rfl rfl rfl (unc_append H7.out fn (by have := HAL.out; omega) _) ?_; rintro v2 w8 ⟨h8, h9⟩; have H8 := Lib.hid h8; have H9 := Lib.hid h9; clear h8 h9))
        go_roundw
        case rel => exact ⟨s2, acc ++ [fn], g2, v2, rfl, H8.out, HNX.out⟩
        case measure =>
          have h1 := H9.out
          have h2 := HSLN.out
          have h3 := HALT.out
          omega
end Go.Proofs.YtpfdnggacpehdaaGreatDoor
