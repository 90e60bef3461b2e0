/- Several texts in one: ReA. What each proves, and its conditions, stands at its own head. -/
import Derived.Test.YtpfdnggacpehdaaGreatDoorPkDU37
import Derived.Test.YtpfdnggacpehdaaGreatDoorPkDU34
import Derived.Test.YtpfdnggacpehdaaGreatDoorPkDU27
import Derived.Test.YtpfdnggacpehdaaGreatDoorPkDU5
import Derived.Test.YtpfdnggacpehdaaGreatDoorPkDU18
import Derived.Test.YtpfdnggacpehdaaGreatDoorPkDU0
import Derived.Test.YtpfdnggacpehdaaGreatDoorPkDU2
import Derived.Test.YtpfdnggacpehdaaGreatDoorPkDU3
import Derived.Test.YtpfdnggacpehdaaGreatDoorPkDU15
import Derived.IntWalk
import Derived.Deep.RegionHeld3
import Derived.Test.YtpfdnggacpehdaaGreatDoorPkDU41
import Derived.Test.YtpfdnggacpehdaaGreatDoorPkDU16
/- The document's layer 22: Unpack. Conditions: those that each theorem names. -/
namespace Go.Proofs.YtpfdnggacpehdaaGreatDoor
open Go.RowKit
set_option linter.unusedVariables false
set_option maxRecDepth 100000

/-- The document's Unpack between two rounds: the cursor, and the numbers so far in a row of the call's own. -/
structure UnAt (W wr : World) (p g : Nat) (bs : List UInt8) (s : St) (acc : List Nat) (vo : Value) : Prop where
  u_ref : Ref W wr p g bs s
  u_out : wr.ownsRow W.heap.size 62 1 vo acc.length (u64s acc)
section
variable {W wr w2 : World} {p g : Nat} {bs : List UInt8} {s s2 : St} {acc : List Nat} {vo v : Value} {e : Ending}
theorem UnAt.p_off (h : UnAt W wr p g bs s acc vo) (hfr : s.fr ≠ []) : vo.ownBlock ≠ some p ∧ vo.ownBlock ≠ some g := by
  obtain ⟨l, r, hlr⟩ : ∃ l r, s.fr = l :: r := by cases hf : s.fr with | nil => exact absurd hf hfr | cons l r => exact ⟨l, r, rfl⟩
  obtain ⟨A, cap, c, _, hp, hst⟩ := ref_some h.u_ref hlr
  obtain ⟨cur, h1, _⟩ := hst.row
  exact ⟨own_other h.u_out hp (by decide), own_other h.u_out h1 (by decide)⟩
theorem UnAt.reads (h : UnAt W wr p g bs s acc vo) (hfr : s.fr ≠ []) (hr : RefTo W wr p g bs s2 v e w2) : e = .returned v ∧ ∃ g2, UnAt W w2 p g2 bs s2 acc vo := by
  obtain ⟨he, g2, hg2, hr2, ho⟩ := hr
  obtain ⟨n1, n2⟩ := h.p_off hfr
  exact ⟨he, g2, hr2, own_block h.u_out (fun k hk => ho.block k (h.u_out.lt k hk).2 (fun e => n1 (e ▸ hk)) (fun e => n2 (e ▸ hk)))⟩
theorem UnAt.later (h : UnAt W wr p g bs s acc vo) {w' : World} (hb : Below wr.heap.size wr w') : UnAt W w' p g bs s acc vo := ⟨h.u_ref.bel hb, own_below h.u_out hb⟩
end
/-- What a call of Unpack gives. -/
def UnpTo (w : World) (o : Option (List Nat)) (e : Ending) (w' : World) : Prop := ∃ A n cap ok, e = .returned (.tuple #[.slice A n cap, .bool ok]) ∧ Below w.heap.size w w' ∧ (∀ l, o = some l → ok = true ∧ n = l.length ∧ Sl w' A cap (u64s l)) ∧ (o = none → ok = false ∧ A = none ∧ n = 0 ∧ cap = 0)
theorem fr_some {s : St} (h : s.fr ≠ []) : ∃ l r, s.fr = l :: r := by
  cases hf : s.fr with
  | nil => exact absurd hf h
  | cons l r => exact ⟨l, r, rfl⟩
/-- The cursor behind an append to the row. -/
theorem un_grown {W w4 w6 : World} {p g : Nat} {bs : List UInt8} {s : St} {acc : List Nat} {vo : Value} {o : Obj} (h : UnAt W w4 p g bs s acc vo) (hfr : s.fr ≠ []) (hg : (w4.alloc o).grownBy w6 vo.ownBlock) : Ref W w6 p g bs s := by
  obtain ⟨n1, n2⟩ := h.p_off hfr
  have hb : Below w4.heap.size w4 (w4.alloc o) := (Below.refl _ w4).alloc (Nat.le_refl _) o
  have hr := h.u_ref.bel hb
  have hp := hr.1.2.2.2.1
  have hgl := hr.1.2.2.2.2.1
  exact hr.keep hg.size (hr.1.2.2.2.2.2.1.grown hg hr.1.2.2.2.2.2.1.size (fun k hk => (h.u_out.lt k hk).1)) (hg.block _ hp (fun e => n1 e.symm)) (hg.block _ hgl (fun e => n2 e.symm))
theorem take_ways (ty : Int) : (wireT ty = 1 ∧ takeT ty = tFix 8) ∨ (wireT ty = 5 ∧ takeT ty = tFix 4) ∨ ((wireT ty == 1) = false ∧ (wireT ty == 5) = false ∧ takeT ty = tVar) := by
  unfold takeT
  by_cases h1 : wireT ty = 1
  · rw [if_pos h1]; exact .inl ⟨h1, rfl⟩
  · rw [if_neg h1]
    by_cases h5 : wireT ty = 5
    · rw [if_pos h5]; exact .inr (.inl ⟨h5, rfl⟩)
    · rw [if_neg h5]; exact .inr (.inr ⟨beq_false_of_ne h1, beq_false_of_ne h5, rfl⟩)
set_option maxHeartbeats 8000000 in
theorem reunpack_any (f : Fd) (t : List UInt8) (w : World) (hl : t.length ≤ 1000000) : Calls Tryz.prog 15 #[fdV f, .string (strOf t)] w (UnpTo w (unpackO f t)) := by
  obtain ⟨i0, hi, hz0, hz1, hz2⟩ := info_parts info_u64
  have HN := Lib.hid (fun u => rsnumber_any f.ty u)
  have HWI := Lib.hid (fun u => rswire_any f.ty u)
  have HFR := Lib.hid (fun n u (hn : n < 18446744073709551616) => rnfrom_any f.ty n u hn)
  have HUO : Hid (unpackO f t = if numberT f.ty = true then (if (unpS f.ty t).2 = true then some (unpS f.ty t).1 else none) else none) := Lib.hid rfl
  obtain ⟨name, num, ty, ref, rep, loose, one⟩ := f
  unfold fdV
  dsimp only at HN HWI HFR HUO ⊢
  generalize unpackO ⟨name, num, ty, ref, rep, loose, one⟩ t = uo at *
  generalize strOf name = s0 at *
  generalize strOf ref = s3 at *
  generalize strOf one = s6 at *
  obtain ⟨wf, hwf⟩ : ∃ wf, wf = w.alloc (.cells #[.string s0, .int .i64 num, .int .i64 ty, .string s3, .bool rep, .bool loose, .string s6] 43) := ⟨_, rfl⟩
  have hbf : Below w.heap.size w wf := by rw [hwf]; exact (Below.refl _ w).alloc (Nat.le_refl _) _
  have hfb : wf.heap[w.heap.size]? = some (.cells #[.string s0, .int .i64 num, .int .i64 ty, .string s3, .bool rep, .bool loose, .string s6] 43 (0, 0)) := by rw [hwf]; exact heap_alloc_new w _
  cases hnum : numberT ty with
  | false =>
    rw [hnum] at HN
    rw [hnum, if_neg (by decide)] at HUO
    have r0 := obj_cell hfb 2
    rw [hwf] at r0
    have HB := Lib.hid hbf
    rw [hwf] at HB
    clear hfb hbf hwf
    go_enter Tryz.func15, Tryz.ntmps15
    go_wp2_with (go_at_call 41; refine (HN.out _).mono ?_; rintro e w2 ⟨rfl, rfl⟩)
    go_ret2
    exact ⟨none, 0, 0, false, rfl, HB.out, (fun l h => by rw [HUO.out] at h; cases h), fun _ => ⟨rfl, rfl, rfl, rfl⟩⟩
  | true =>
    rw [hnum] at HN
    rw [hnum, if_pos rfl] at HUO
    obtain ⟨W, hW⟩ : ∃ W, W = Lib.bytesWorld wf 5 (strOf t) := ⟨_, rfl⟩
    have hbW : Below w.heap.size w W := by rw [hW]; exact hbf.trans ((bytes_below wf t).mono hbf.size)
    have hbs : Bs W (some ⟨wf.heap.size, 0, none⟩) (grownCap wf t.length 0 5) t := by rw [hW]; exact bytes_bs wf t (by unfold maxLen; omega)
    have hcv := run_bytes t wf
    rw [← hW] at hcv
    have hfW : W.heap[w.heap.size]? = some (.cells #[.string s0, .int .i64 num, .int .i64 ty, .string s3, .bool rep, .bool loose, .string s6] 43 (0, 0)) := by rw [hW]; exact ((bytes_below wf t).block _ (lt_of_block hfb)).trans hfb
    have HFROM := Lib.hid (rfrom_any _ t.length _ t W rfl hbs)
    have HTY : Hid (∀ u, Below W.heap.size W u → u.cell? ⟨w.heap.size, 2, none⟩ = some (.int .i64 ty)) := Lib.hid (fun u hb => obj_cell ((hb.block _ (lt_of_block hfW)).trans hfW) 2)
    have HBW := Lib.hid hbW
    have HBS := Lib.hid hbs
    have r0 := obj_cell hfb 2
    generalize grownCap wf t.length 0 5 = gc at *
    have hsz : wf.heap.size = w.heap.size + 1 := by rw [hwf]; simp
    rw [hsz] at HFROM HBS hcv
    rw [hwf] at r0 hcv
    clear hbW hbs hfW hfb hbf hW hwf hsz
    go_enter Tryz.func15, Tryz.ntmps15
    go_wp2_with (first
      | (go_at_call 41; refine (HN.out _).mono ?_; rintro e w2 ⟨rfl, rfl⟩)
      | (go_at_call 42; refine HFROM.out.mono ?_; rintro e w1 ⟨p, g, rfl, hb1, hp1, hg1, hq⟩; have HR1 := Lib.hid (hq W (Nat.le_refl _) (Below.refl _ _) HBS.out); have HB1 := Lib.hid hb1; clear hq hb1))
    have HU1 : Hid (UnAt W (w1.alloc (.cells #[] 62)) p g t ⟨0, [t.length]⟩ [] (.slice (some ⟨w1.heap.size, 0, none⟩) 0 0)) := Lib.hid ⟨HR1.out.bel ((Below.refl _ w1).alloc (Nat.le_refl _) _), World.ownsRow_made w1 #[] 0 HB1.out.size (by decide) rfl⟩
    clear HFROM HR1 r0 hcv
    go_loopw [7] (fun x7 wr => ∃ s acc g vo, vo = x7 ∧ HalfN ty t s acc ∧ UnAt W wr p g t s acc vo) (fun x7 _ => t.length + 1 - sliceLen x7)
    case atStart => exact ⟨_, _, _, _, rfl, halfN_start ty t, HU1.out⟩
    case round =>
      obtain ⟨s, acc, g, vo, rfl, hhalf, hat⟩ := hrel
      clear HU1 HB1
      have hfr := hhalf.n_fr
      have HM := Lib.hid (rmore_ref hat.u_ref)
      have HAT := Lib.hid hat
      have HBWR := Lib.hid hat.u_ref.1.2.2.2.2.2.1
      cases hm : s.more with
      | false =>
        rw [hm] at HM
        have hd := hhalf.done hm
        have HD : Hid (uo = some acc) := Lib.hid (by rw [HUO.out, hd, if_pos rfl])
        obtain ⟨hn9, A9, c9, hv9, hs9⟩ := Sl.own hat.u_out
        subst hv9
        have HSL := Lib.hid hs9
        clear hfr hhalf hat hm hd hs9 hn9
        go_wp2_with (go_at_call 43; refine HM.out.mono ?_; rintro e w2 ⟨rfl, m, rfl⟩)
        go_ret2
        refine ⟨A9, _, c9, true, rfl, HBW.out.trans ((HBWR.out.trans ((drawn_bel _ _).mono HBWR.out.size)).mono HBW.out.size), fun l h => ?_, fun h => by rw [HD.out] at h; cases h⟩
        rw [HD.out] at h
        cases h
        exact ⟨rfl, by rw [u64s_length], HSL.out.keep (fun q hq => (drawn_bel _ _).cell hq)⟩
      | true =>
        rw [hm] at HM
        have hne : s.fr ≠ [] := by rw [hfr]; simp
        obtain ⟨s2, hs2⟩ : ∃ s2, s2 = (s.rd (takeT ty) 0 t).2 := ⟨_, rfl⟩
        obtain ⟨n, hn⟩ : ∃ n, n = (s.rd (takeT ty) 0 t).1 := ⟨_, rfl⟩
        have hn64 : n < 18446744073709551616 := by rw [hn]; exact rd_lt
        have HTYW : Hid (∀ u, Below wr.heap.size wr u → u.cell? ⟨w.heap.size, 2, none⟩ = some (.int .i64 ty)) := Lib.hid (fun u hb => HTY.out u (HBWR.out.trans (hb.mono HBWR.out.size)))
        have HFN := Lib.hid (fun u => HFR.out n u hn64)
        have HV : Hid (takeT ty = tVar → ∀ w', Below wr.heap.size wr w' → Calls Tryz.prog 46 #[.pointer (some ⟨p, 0, none⟩)] w' fun e w2 => e = .returned (.int .u64 (n : Int)) ∧ ∃ g2, UnAt W w2 p g2 t s2 acc vo) := Lib.hid (fun ht w' hb => (rvarint_ref (hat.later hb).u_ref).mono fun e w2 hto => by rw [hn, hs2, ht]; exact (hat.later hb).reads hne hto)
        have HF8 : Hid (takeT ty = tFix 8 → ∀ w', Below wr.heap.size wr w' → Calls Tryz.prog 45 #[.pointer (some ⟨p, 0, none⟩), .int .i64 8] w' fun e w2 => e = .returned (.int .u64 (n : Int)) ∧ ∃ g2, UnAt W w2 p g2 t s2 acc vo) := Lib.hid (fun ht w' hb => (rfixed_ref 8 (by decide) (by decide) (hat.later hb).u_ref).mono fun e w2 hto => by rw [hn, hs2, ht]; exact (hat.later hb).reads hne hto)
        have HF4 : Hid (takeT ty = tFix 4 → ∀ w', Below wr.heap.size wr w' → Calls Tryz.prog 45 #[.pointer (some ⟨p, 0, none⟩), .int .i64 4] w' fun e w2 => e = .returned (.int .u64 (n : Int)) ∧ ∃ g2, UnAt W w2 p g2 t s2 acc vo) := Lib.hid (fun ht w' hb => (rfixed_ref 4 (by decide) (by decide) (hat.later hb).u_ref).mono fun e w2 hto => by rw [hn, hs2, ht]; exact (hat.later hb).reads hne hto)
        have r0 := HTYW.out wr (Below.refl _ _)
        have r0d : ∀ m, (wr.drewN m).cell? ⟨w.heap.size, 2, none⟩ = some (.int .i64 ty) := fun m => r0
        have hpl : p < wr.heap.size := hat.u_ref.1.2.2.2.1
        by_cases hbad : s2.fr = []
        · have hd := hhalf.fail hm (by rw [← hs2]; exact hbad)
          have HD : Hid (uo = none) := Lib.hid (by rw [HUO.out, hd, if_neg (by decide)])
          have HBAD := Lib.hid hbad
          have hways := take_ways ty
          clear hfr hhalf hat hm hne hs2 hn hd hbad
          generalize wireT ty = wi at *
          rcases hways with ⟨rfl, ht⟩ | ⟨rfl, ht⟩ | ⟨h1, h5, ht⟩
          all_goals
            go_wp2_with (first
              | (go_at_call 43; refine HM.out.mono ?_; rintro e w2 ⟨rfl, m, rfl⟩)
              | (go_at_call 44; refine (HWI.out _).mono ?_; rintro e w3 ⟨rfl, rfl⟩)
              | (go_at_call 45; (first | refine (HF8.out ht _ (drawn_bel _ _)).mono ?_ | refine (HF4.out ht _ (drawn_bel _ _)).mono ?_); rintro e w4 ⟨rfl, g2, ha2⟩; obtain ⟨A2, c2, _, hp2⟩ := ref_none ha2.u_ref HBAD.out; have p3 := obj_cell hp2 3; have HA2 := Lib.hid ha2; clear ha2 hp2)
              | (go_at_call 46; refine (HV.out ht _ (drawn_bel _ _)).mono ?_; rintro e w4 ⟨rfl, g2, ha2⟩; obtain ⟨A2, c2, _, hp2⟩ := ref_none ha2.u_ref HBAD.out; have p3 := obj_cell hp2 3; have HA2 := Lib.hid ha2; clear ha2 hp2))
            go_ret2
            exact ⟨none, 0, 0, false, rfl, HBW.out.trans (HA2.out.u_ref.1.2.2.2.2.2.1.mono HBW.out.size), (fun l h => by rw [HD.out] at h; cases h), fun _ => ⟨rfl, rfl, rfl, rfl⟩⟩
        · have hst := hhalf.step hm (by rw [← hs2]; exact hbad)
          rw [← hs2, ← hn] at hst
          have hln := hst.len
          rw [List.length_append, List.length_singleton] at hln
          have HAL : Hid (acc.length + 1 ≤ 1000000) := Lib.hid (by omega)
          obtain ⟨fn, hfn⟩ : ∃ fn, fn = fromT ty n := ⟨_, rfl⟩
          rw [← hfn] at hst HFN
          have HST := Lib.hid hst
          have HNB := Lib.hid hbad
          have hways := take_ways ty
          have HSLN : Hid (sliceLen vo = acc.length) := Lib.hid (by obtain ⟨A9, c9, e9, _⟩ := own_form hat.u_out; rw [e9]; rfl)
          clear hfr hhalf hat hm hne hs2 hn hbad hst hln hfn
          generalize wireT ty = wi at *
          rcases hways with ⟨rfl, ht⟩ | ⟨rfl, ht⟩ | ⟨h1, h5, ht⟩
          all_goals
            go_wp2_with (first
              | (go_at_call 43; refine HM.out.mono ?_; rintro e w2 ⟨rfl, m, rfl⟩)
              | (go_at_call 44; refine (HWI.out _).mono ?_; rintro e w3 ⟨rfl, rfl⟩)
              | (go_at_call 45; (first | refine (HF8.out ht _ (drawn_bel _ _)).mono ?_ | refine (HF4.out ht _ (drawn_bel _ _)).mono ?_); rintro e w4 ⟨rfl, g2, ha2⟩; obtain ⟨l2, r2, hlr⟩ : ∃ l r, s2.fr = l :: r := fr_some HNB.out; obtain ⟨A2, c2, _, _, hp2, _⟩ := ref_some ha2.u_ref hlr; have p3 := obj_cell hp2 3; have HA2 := Lib.hid ha2; have r4 := HTY.out _ ha2.u_ref.1.2.2.2.2.2.1; clear ha2 hp2 hlr)
              | (go_at_call 46; refine (HV.out ht _ (drawn_bel _ _)).mono ?_; rintro e w4 ⟨rfl, g2, ha2⟩; obtain ⟨l2, r2, hlr⟩ : ∃ l r, s2.fr = l :: r := fr_some HNB.out; obtain ⟨A2, c2, _, _, hp2, _⟩ := ref_some ha2.u_ref hlr; have p3 := obj_cell hp2 3; have HA2 := Lib.hid ha2; have r4 := HTY.out _ ha2.u_ref.1.2.2.2.2.2.1; clear ha2 hp2 hlr)
              | (go_at_call 47; refine (HFN.out _).mono ?_; rintro e w5 ⟨rfl, rfl⟩)
              | (at_builtin; refine wpList_append_own _ rfl _ _ 44 rfl W.heap.size 62 i0 (.int .u64 0) 1 8 Tryz.underlying44 hi hz0 hz1 hz2 rfl (by decide) _ acc.length (u64s acc) rfl (own_below HA2.out.u_out ((Below.refl _ w4).alloc (Nat.le_refl _) _)) ⟨w4.heap.size, 0, none⟩ 1 1 [.int .u64 (fn : Int)] rfl rfl (cell_one_new _ _ _) (one_u64 _) (by unfold maxLen; have := HAL.out; omega) (by have := HAL.out; omega) (by have := HA2.out.u_ref.1.2.2.2.2.2.1.size; simp; omega) ?_; intro v2 w6 hown2 hgrow2 _; have HO2 := Lib.hid hown2; have HG2 := Lib.hid hgrow2; clear hown2 hgrow2))
            go_roundw
            case rel =>
              refine ⟨s2, _, g2, v2, rfl, HST.out, ⟨?_, ?_⟩⟩
              · exact un_grown HA2.out HNB.out HG2.out
              · have := HO2.out
                rw [u64s_snoc] at this
                rw [List.length_append]
                exact this
            case measure =>
              obtain ⟨A9, c9, e9, _⟩ := own_form HO2.out
              rw [e9, HSLN.out]
              show t.length + 1 - (acc.length + 1) < t.length + 1 - acc.length
              have := HST.out.len
              rw [List.length_append, List.length_singleton] at this
              omega
end Go.Proofs.YtpfdnggacpehdaaGreatDoor
