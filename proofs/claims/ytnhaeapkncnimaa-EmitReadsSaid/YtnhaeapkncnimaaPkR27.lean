/- Several texts in one: EmO. What each proves, and its conditions, stands at its own head. -/
import Derived.Test.YtnhaeapkncnimaaPkR25
import Derived.Deep.CutRange
import Derived.Deep.RegionLaw
import Derived.Deep.RegionHeld3
import Derived.Maps.AppendAt
/- Open. Conditions: those that each theorem names. -/
namespace Go.Proofs.Ytnhaeapkncnimaa
open Go.RowKit
set_option linter.unusedVariables false
set_option maxRecDepth 100000

theorem winfo_int : (Try.prog.info? 3).map (fun i => (i.zero, i.size, i.bytes)) = some (some (.int .i64 0), 1, 8) := by kernel_rfl
theorem winfo_frame : (Try.prog.info? 66).map (fun i => (i.zero, i.size, i.bytes)) = some (some (.agg #[.int .u64 0, .int .i64 0, .int .i64 0, .slice none 0 0]), 4, 48) := by kernel_rfl

theorem grown_below {w w1 w2 : World} {row : Option Nat} (hb : Below w.heap.size w w1) (h : w1.grownBy w2 row) : w.grownBy w2 row :=
  ⟨h.os.trans hb.os, h.tape.trans hb.tape, h.output.trans hb.output, Nat.le_trans hb.size h.size, fun k hk hr => (h.block k (Nat.lt_of_lt_of_le hk hb.size) hr).trans (hb.block k hk)⟩
theorem moved_below {w w1 : World} {v v2 : Value} (hb : Below w.heap.size w w1) (h : Moved w1 v v2) : Moved w v v2 := by
  rcases h with e | ⟨g, e, hg⟩
  · exact .inl e
  · exact .inr ⟨g, e, Nat.le_trans hb.size hg⟩
theorem own_bel {w w1 : World} {B : Nat} {base : Nat} {e : TypeId} {size n : Nat} {v : Value} {xs : List Value} (h : w.ownsRow base e size v n xs) (hb : Below w.heap.size w w1) : w1.ownsRow base e size v n xs :=
  own_block h (fun k hk => hb.block k (h.lt k hk).2)

theorem cells_new (w : World) (cs : List Value) (t : TypeId) : ∀ j u, cs[j]? = some u → (w.alloc (.cells cs.toArray t)).cell? ((⟨w.heap.size, 0, none⟩ : Addr).add j) = some u := by
  intro j u hu
  have hadd : (⟨w.heap.size, 0, none⟩ : Addr).add j = ⟨w.heap.size, j, none⟩ := by unfold Addr.add; split <;> simp_all
  rw [hadd, obj_cell (heap_alloc_new w _)]
  simpa using hu
def Ws.opens (s : Ws) (num : Int) : Ws := if rightB num 2 = true then ⟨s.raw, s.fs ++ [⟨tagN num 2, s.raw.length, s.raw.length + s.room, []⟩], s.op ++ [s.fs.length], s.room⟩ else s
/-- A writer that came of another. -/
def From (B : Nat) (w : World) (p : Nat) (S : Nat → Prop) (made : Bool) (s : Ws) (wx : World) : Prop := ∃ S', Wr B wx p S' made s ∧ (∀ k, S' k → S k ∨ w.heap.size ≤ k) ∧ Touch S w wx
theorem from_op {B p : Nat} {S : Nat → Prop} {made : Bool} {s : Ws} {w w1 w2 : World} {vb vf vo v2 : Value} {ps : List (Fr × Value)} {op2 : List Nat} (h : WrAt B w p S made s vb vf vo ps) (hb : Below w.heap.size w w1) (hg : w1.grownBy w2 vo.ownBlock) (hm : Moved w1 vo v2)
    (ho : w2.ownsRow B 3 1 v2 op2.length (ints op2)) : From B w p S made ⟨s.raw, s.fs, op2, s.room⟩ (w2.setCell ⟨p, 3, none⟩ v2) := by
  obtain ⟨S', h1, h2, h3⟩ := wr_op h (grown_below hb hg) (moved_below hb hm) ho
  exact ⟨S', ⟨_, _, _, _, h1⟩, h2, h3⟩
theorem from_row {B p : Nat} {S : Nat → Prop} {made : Bool} {s : Ws} {w w1 w2 : World} {vb vf vo v2 : Value} {ps : List (Fr × Value)} {f : Fr} (h : WrAt B w p S made s vb vf vo ps) (hb : Below w.heap.size w w1) (hg : w1.grownBy w2 vf.ownBlock) (hm : Moved w1 vf v2) (hf : f.head = [])
    (ho : w2.ownsRow B 66 4 v2 (ps.length + 1) (frRow ps ++ frCells (f, .slice none 0 0))) : From B w p S made ⟨s.raw, s.fs ++ [f], s.op, s.room⟩ (w2.setCell ⟨p, 2, none⟩ v2) := by
  obtain ⟨S', h1, h2, h3⟩ := wr_row h (grown_below hb hg) (moved_below hb hm) hf (by rw [frRow, List.flatMap_append]; simpa [frRow] using ho)
  exact ⟨S', ⟨_, _, _, _, h1⟩, h2, h3⟩

set_option maxHeartbeats 2000000 in
theorem wopen_any {B p : Nat} {S : Nat → Prop} {s : Ws} {w : World} (h : Wr B w p S true s) (num : Int) (hb : s.raw.length + s.room ≤ 70368744177664) (hop : s.op.length ≤ 1099511627776) (hfs : s.fs.length ≤ 1099511627776) :
    Calls Try.prog 16 #[.pointer (some ⟨p, 0, none⟩), .int .i64 num] w (WrTo B w p S true (s.opens num) (.bool (rightB num 2))) := by
  have HO := Lib.hid (of_any num 2)
  have hlt := tagN_lt num 2
  obtain ⟨i0, hi, hz0, hz1, hz2⟩ := info_parts winfo_int
  obtain ⟨i1, hi1, hy0, hy1, hy2⟩ := info_parts winfo_frame
  cases hr : rightB num 2 with
  | false =>
    rw [hr] at HO
    have HE : Hid (s.opens num = s) := by show _ = _; rw [Ws.opens, hr, if_neg (by simp)]
    have HW := Lib.hid h
    clear h hb hlt hr
    go_enter Try.func16, Try.ntmps16
    go_wp2_with (go_at_call 33; refine (HO.out _).mono ?_; rintro e w' ⟨rfl, rfl⟩)
    go_ret
    rw [HE.out]
    exact WrTo.same HW.out 0
  | true =>
    rw [hr] at HO
    have HE : Hid (s.opens num = ⟨s.raw, s.fs ++ [⟨tagN num 2, s.raw.length, s.raw.length + s.room, []⟩], s.op ++ [s.fs.length], s.room⟩) := by show _ = _; rw [Ws.opens, hr, if_pos rfl]
    have HRD := Lib.hid (ready_any h)
    have HW := Lib.hid h
    obtain ⟨vb, vf, vo, ps, hat⟩ := h
    obtain ⟨Af, capf, hvf, x1, x2, _, _⟩ := own_form hat.row
    obtain ⟨Ao, capo, hvo, x3, x4, _, _⟩ := own_form hat.op
    subst hvf hvo
    have c2 := obj_cell hat.obj 2
    have c3 := obj_cell hat.obj 3
    have f3 := obj_free hat.obj 3
    have hpl : p < w.heap.size := (hat.lt p hat.sp).2
    have hpsl : ps.length = s.fs.length := by rw [← hat.fs, List.length_map]
    obtain ⟨N, hN⟩ : ∃ N, N = ps.length := ⟨_, rfl⟩
    obtain ⟨K, hK⟩ : ∃ K, K = s.op.length := ⟨_, rfl⟩
    rw [← hN] at c2 c3 x1
    rw [← hK] at c2 c3 x3
    unfold maxLen at x2 x4
    have HAT := Lib.hid hat
    have HN := Lib.hid hN
    have HK := Lib.hid hK
    have HPS := Lib.hid hpsl
    have HLT := Lib.hid hlt
    have HFS := Lib.hid hfs
    have HOP := Lib.hid hop
    have hBw : B ≤ w.heap.size := by have := hat.lt p hat.sp; omega
    generalize tagN num 2 = tg at *
    clear hat hN hK hpsl hlt hr hfs hop
    go_enter Try.func16, Try.ntmps16
    go_wp2_with (first
      | (go_at_call 33; refine (HO.out _).mono ?_; rintro e w' ⟨rfl, rfl⟩)
      | (go_at_call 34; refine HRD.out.mono ?_; rintro e w' ⟨rfl, rfl⟩))
    go_cut [] from 19 to 32 (fun wx => From B w p S true ⟨s.raw, s.fs, s.op ++ [s.fs.length], s.room⟩ wx)
    case first =>
      go_region_law (first
        | (refine step_append2 (by rfl) _ _ 35 (by rfl) B 3 i0 (.int .i64 0) 1 8 Try.underlying35 hi hz0 hz1 hz2 rfl (by decide) (.slice Ao K capo) K (ints s.op) (by rfl) (own_bel (B := B) (show w.ownsRow B 3 1 (.slice Ao K capo) K (ints s.op) from by have := HAT.out.op; rwa [← HK.out] at this) ((Below.refl _ w).drew.alloc (Nat.le_refl _) _)) ⟨w.heap.size, 0, none⟩ 1 1 [.int .i64 (N : Int)] (by rfl) rfl (cell_one_new _ _ _) (by intro u hu; simp at hu; subst hu; rfl) (by have := HOP.out; have := HK.out; unfold maxLen; omega) (by have := HOP.out; have := HK.out; omega) (by simp; omega) ?_
           intro v2 w2 hown2 hg2 hm2
           obtain ⟨A2, cap2, hv2, _, _, _, _⟩ := own_form hown2
           subst hv2
           have hp2 := (hg2.block p (by simp; omega) (fun e => own_other HAT.out.op HAT.out.obj (by decide) (by rw [← HK.out]; exact e.symm))).trans ((Below.heap_alloc _ _ _ hpl).trans HAT.out.obj)
           have c32 := obj_cell hp2 3
           have f32 := obj_free hp2 3
           have HP2 := Lib.hid hp2
           clear hp2))
      all_goals
        go_wp2_with fail
        go_meet
        case rel =>
          have hg3 := hg2
          have hm3 := hm2
          rw [HK.out] at hg3 hm3
          have e := from_op HAT.out (op2 := s.op ++ [s.fs.length]) ((Below.refl _ w).drew.alloc (Nat.le_refl _) _) hg3 hm3 (by rw [List.length_append, ints_append, ← HPS.out, ← HN.out, ← HK.out]; exact hown2)
          rw [← HK.out] at e
          exact e
    case rest =>
      obtain ⟨S1, hw1, hs1, ht1⟩ := hcut
      have HLEN := Lib.hid (fun m => wlen_any (hw1.bel (w' := wc.drew.drewN m) ⟨rfl, rfl, rfl, Nat.le_refl _, fun _ _ => rfl⟩) hb)
      have HLEN0 := Lib.hid (wlen_any (hw1.bel (w' := wc.drew) ⟨rfl, rfl, rfl, Nat.le_refl _, fun _ _ => rfl⟩) hb)
      have HS1 := Lib.hid hs1
      have HT1 := Lib.hid ht1
      obtain ⟨vb1, vf1, vo1, ps1, hat1⟩ := hw1
      obtain ⟨Ab1, capb1, hvb1, y1, y2, _, _⟩ := own_form hat1.raw
      obtain ⟨Af1, capf1, hvf1, y3, y4, _, _⟩ := own_form hat1.row
      subst hvb1 hvf1
      have d1 := obj_cell hat1.obj 1
      have d2 := obj_cell hat1.obj 2
      have e2 := obj_free hat1.obj 2
      have hpl1 : p < wc.heap.size := (hat1.lt p hat1.sp).2
      have hBw1 : B ≤ wc.heap.size := by have := hat1.lt p hat1.sp; omega
      have hpsl1 : ps1.length = s.fs.length := by rw [← List.length_map (f := Prod.fst), hat1.fs]
      obtain ⟨N1, hN1⟩ : ∃ N1, N1 = ps1.length := ⟨_, rfl⟩
      obtain ⟨nb, hnb⟩ : ∃ nb, nb = s.raw.length := ⟨_, rfl⟩
      obtain ⟨tot, htot⟩ : ∃ tot, tot = s.raw.length + s.room := ⟨_, rfl⟩
      dsimp only at d1 d2 y1 HLEN HLEN0
      rw [← hnb] at d1 d2 y1
      rw [← hN1] at d1 d2 y3
      rw [← htot] at HLEN HLEN0
      unfold maxLen at y2 y4
      have HAT1 := Lib.hid hat1
      have HN1 := Lib.hid hN1
      have HNB := Lib.hid hnb
      have HTOT := Lib.hid htot
      have HPS1 := Lib.hid hpsl1
      have d22 : ∀ (m : Nat) (o : Obj), ((wc.drewN m).alloc o).cell? ⟨p, 2, none⟩ = some (.slice Af1 N1 capf1) := fun m o => (World.cell?_alloc_lt _ o ⟨p, 2, none⟩ hpl1).trans d2
      clear hat1 hN1 hnb htot hpsl1 hs1 ht1 c2 c3 f3
      go_wp2
      go_region_law (first
        | (go_simp; go_at_call 11; refine HLEN0.out.mono ?_; rintro e w' ⟨rfl, m, rfl⟩)
        | (refine step_append2 (by rfl) _ _ 52 (by rfl) B 66 i1 (.agg #[.int .u64 0, .int .i64 0, .int .i64 0, .slice none 0 0]) 4 48 Try.underlying52 hi1 hy0 hy1 hy2 rfl (by decide) (.slice Af1 N1 capf1) N1 (frRow ps1) (by rfl) (own_bel (B := B) (show wc.ownsRow B 66 4 (.slice Af1 N1 capf1) N1 (frRow ps1) from by have := HAT1.out.row; rwa [← HN1.out] at this) ((drew_below wc (1 + m)).alloc (Nat.le_refl _) _)) ⟨wc.heap.size, 0, none⟩ 1 1 [.int .u64 (tg : Int), .int .i64 (nb : Int), .int .i64 (tot : Int), .slice none 0 0] (by rfl) rfl (cells_new _ _ _) (by intro u hu; simp at hu; rcases hu with rfl | rfl | rfl | rfl <;> rfl) (by have := HFS.out; have := HPS1.out; have := HN1.out; unfold maxLen; omega) (by have := HFS.out; have := HPS1.out; have := HN1.out; omega) (by simp; omega) ?_
           intro v2 w2 hown2 hg2 hm2
           obtain ⟨A2, cap2, hv2, _, _, _, _⟩ := own_form hown2
           subst hv2
           have hp2 := (hg2.block p (by simp; omega) (fun e => own_other HAT1.out.row HAT1.out.obj (by decide) (by rw [← HN1.out]; exact e.symm))).trans ((Below.heap_alloc _ _ _ hpl1).trans HAT1.out.obj)
           have c22 := obj_cell hp2 2
           have f22 := obj_free hp2 2
           have HP2 := Lib.hid hp2
           clear hp2))
      all_goals
        go_wp2
        go_ret
        have hg3 := hg2
        have hm3 := hm2
        rw [HN1.out] at hg3 hm3
        have e := from_row HAT1.out (f := ⟨tg, nb, tot, []⟩) ((drew_below wc (1 + m)).alloc (Nat.le_refl _) _) hg3 hm3 rfl (by rw [← HN1.out]; exact hown2)
        rw [← HN1.out] at e
        rw [HE.out, ← HTOT.out, ← HNB.out]
        obtain ⟨S2, r1, r2, r3⟩ := e
        refine ⟨rfl, S2, r1, fun k hk => ?_, HT1.out.trans r3 HS1.out⟩
        rcases r2 k hk with q | q
        · exact HS1.out k q
        · exact .inr (by have := HT1.out.size; omega)
end Go.Proofs.Ytnhaeapkncnimaa
