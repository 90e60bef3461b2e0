/- Several texts in one: EmC, RemC, EmLike, EmShut, EmRdW, EncW, EnA. What each proves, and its conditions, stands at its own head. -/
import Derived.Test.YtloheacncefkgaaGreatDoorPkEU47
import Derived.Test.YtloheacncefkgaaGreatDoorPkEU31
import Derived.Test.YtloheacncefkgaaGreatDoorPkEU8
import Derived.Deep.RegionHeld3
import Derived.Deep.CutRange
import Derived.Maps.AppendAt
import Derived.Test.YtloheacncefkgaaGreatDoorPkEU15
import Derived.Test.YtloheacncefkgaaGreatDoorPkEU36
import Derived.Deep.RegionLaw
import Derived.Test.YtloheacncefkgaaGreatDoorPkEU5
import Derived.Test.YtloheacncefkgaaGreatDoorPkEU1
import Derived.Test.YtloheacncefkgaaGreatDoorPkEU28
import Derived.Test.YtloheacncefkgaaGreatDoorPkEU29
import Derived.Test.YtloheacncefkgaaGreatDoorPkEU37
import Derived.Test.YtloheacncefkgaaGreatDoorPkEU32
import Derived.Shelf.Abstract
import Derived.Laws.EntriesVeiled
/- Close. Conditions: those that each theorem names. -/
namespace Go.Proofs.YtloheacncefkgaaGreatDoor
open Go.RowKit
open Go.Lib (uvarint)
set_option linter.unusedVariables false
set_option maxRecDepth 100000

theorem cell_set_off (w : World) (g : Nat) (v : Value) {i j : Nat} (h : i ≠ j) : (w.setCell ⟨g, i, none⟩ v).cell? ⟨g, j, none⟩ = w.cell? ⟨g, j, none⟩ := by
 apply World.cell?_setCell_other
 intro e
 cases e
 exact h rfl
/-- The state behind the head's statement. -/
def Headed (B : Nat) (w : World) (p : Nat) (S : Nat → Prop) (made : Bool) (s' : Ws) (vb vf vo : Value) (gf o : Nat) (n : Nat) (wx : World) : Prop :=
 ∃ S' ps, WrAt B wx p S' made s' vb vf vo ps ∧ (∀ k, S' k → S k ∨ w.heap.size ≤ k) ∧ Touch S w wx ∧ ∃ A cap, wx.cell? ⟨gf, o * 4 + 3, none⟩ = some (.slice A n cap)

def Headed2 (B : Nat) (w : World) (p : Nat) (S : Nat → Prop) (made : Bool) (s' : Ws) (vb vf vo : Value) (wx : World) : Prop :=
 ∃ S' ps, WrAt B wx p S' made s' vb vf vo ps ∧ (∀ k, S' k → S k ∨ w.heap.size ≤ k) ∧ Touch S w wx
theorem room_touch {B p r : Nat} {S S' : Nat → Prop} {made : Bool} {s : Ws} {vb vf vo : Value} {ps : List (Fr × Value)} {w w5 : World} (h : WrAt B w5 p S' made s vb vf vo ps) (hs : ∀ k, S' k → S k ∨ w.heap.size ≤ k) (ht : Touch S w w5) :
 Headed2 B w p S made ⟨s.raw, s.fs, s.op, r⟩ vb vf vo ((w5.setCell ⟨p, 4, none⟩ (.int .i64 (r : Int))).drew) :=
 ⟨S', ps, (wr_room h r).keep (fun _ _ => rfl) (Nat.le_refl _), hs, (ht.set (q := ⟨p, 4, none⟩) (hs p h.sp) _).drew⟩

set_option maxHeartbeats 4000000 in
theorem wclose_any {B p : Nat} {S : Nat → Prop} {made : Bool} {s : Ws} {w : World} (h : Wr B w p S made s) {init : List Nat} {o : Nat} {f : Fr} (hop : s.op = init ++ [o]) (hf : s.fs[o]? = some f)
 (htag : f.tag < 18446744073709551616) (hbef : f.before ≤ s.raw.length + s.room) (hb : s.raw.length + s.room ≤ 1099511627776) (hfs : s.fs.length ≤ 1099511627776) (hol : s.op.length ≤ 1099511627776)
 (hasc : init = [] → Asc s.raw.length (s.shut1 init o f).fs) (hroom : init = [] → (s.shut1 init o f).room = headSum (s.shut1 init o f).fs) :
 Calls Tryz.prog 119 #[.pointer (some ⟨p, 0, none⟩)] w (WrTo B w p S made (s.shut init o f) (.bool true)) := by
 have HD := Lib.hid (wdeep_any h)
 have HLEN := Lib.hid (fun (w' : World) (hbl : Below w.heap.size w w') => wlen_any (h.bel hbl) (by omega))
 have HWR := Lib.hid h
 obtain ⟨vb, vf, vo, ps, hat⟩ := h
 obtain ⟨v0, hv0⟩ : ∃ v0, ps[o]? = some (f, v0) := by
  have := hf
  rw [← hat.fs, List.getElem?_map, Option.map_eq_some_iff] at this
  obtain ⟨q, hq, e⟩ := this
  exact ⟨q.2, by rw [hq, ← e]⟩
 have hol1 : o < ps.length := (List.getElem?_eq_some_iff.1 hv0).1
 have hpsl : ps.length = s.fs.length := by rw [← hat.fs, List.length_map]
 obtain ⟨gf, cf, hvf, x1, x2, x3, x4⟩ := own_pos hat.row (by omega)
 obtain ⟨go, co, hvo, y1, y2, y3, y4⟩ := own_pos hat.op (by rw [hop]; simp)
 subst hvf hvo
 have c2 := obj_cell hat.obj 2
 have c3 := obj_cell hat.obj 3
 have q0 : w.cell? ⟨gf, o * 4, none⟩ = some (.int .u64 (f.tag : Int)) := own_cell hat.row (g := gf) rfl ((frRow_get hv0 (i := 0) (by omega)).trans rfl)
 have q2 : w.cell? ⟨gf, o * 4 + 2, none⟩ = some (.int .i64 (f.before : Int)) := own_cell hat.row (g := gf) rfl ((frRow_get hv0 (i := 2) (by omega)).trans rfl)
 have q3 : w.cell? ⟨gf, o * 4 + 3, none⟩ = some v0 := own_cell hat.row (g := gf) rfl ((frRow_get hv0 (i := 3) (by omega)).trans rfl)
 have q4 : w.frozen? ⟨gf, o * 4 + 3, none⟩ = false := own_free hat.row (g := gf) rfl _
 obtain ⟨K, hK⟩ : ∃ K, K = init.length := ⟨_, rfl⟩
 have hopl : s.op.length = K + 1 := by rw [hop, hK]; simp
 have q5 : w.cell? ⟨go, K, none⟩ = some (.int .i64 (o : Int)) := own_cell hat.op (g := go) rfl (by rw [hop, ints_append, List.getElem?_append_right (by rw [ints_length]; omega), ints_length, hK, Nat.sub_self]; rfl)
 rw [hopl] at c2 c3 HD y2
 have hK2 : K + 1 ≤ 1099511627776 := by omega
 obtain ⟨N, hN⟩ : ∃ N, N = ps.length := ⟨_, rfl⟩
 rw [← hN] at c2 c3 hol1 x2
 obtain ⟨tg, htg⟩ : ∃ tg, tg = f.tag := ⟨_, rfl⟩
 obtain ⟨bf, hbf⟩ : ∃ bf, bf = f.before := ⟨_, rfl⟩
 obtain ⟨tot, htot⟩ : ∃ tot, tot = s.raw.length + s.room := ⟨_, rfl⟩
 rw [← htg] at q0 htag
 rw [← hbf] at q2 hbef
 rw [← htot] at HLEN hbef hb
 unfold maxLen at x3 y3
 have hN2 : N ≤ 1099511627776 := by omega
 have HAT := Lib.hid hat
 have HOP := Lib.hid hop
 have HV0 := Lib.hid hv0
 have HK := Lib.hid hK
 have HN := Lib.hid hN
 have HTG := Lib.hid htg
 have HBF := Lib.hid hbf
 have HTOT := Lib.hid htot
 have HASC := Lib.hid hasc
 have HROOM := Lib.hid hroom
 have HOPL := Lib.hid hopl
 have HPSL := Lib.hid hpsl
 have HF := Lib.hid hf
 clear hat hop hv0 hK hN htg hbf htot hasc hroom hopl hpsl hf hfs hol
 go_enter Tryz.func119, Tryz.ntmps119
 go_wp2_with (go_at_call 81; refine HD.out.mono ?_; rintro e w' ⟨rfl, rfl⟩)
 go_quiet (fail)
 go_wp2
 obtain ⟨wq, hwq⟩ : ∃ wq, wq = w.drewN nq := ⟨_, rfl⟩
 have hbq : Below w.heap.size w wq := hwq ▸ drew_below w nq
 rw [← hwq]
 clear hwq
 have HSS : Hid (∀ w', Below w.heap.size w w' → (w'.cell? ⟨gf, o * 4, none⟩ = some (.int .u64 (tg : Int)) ∧ w'.cell? ⟨gf, o * 4 + 2, none⟩ = some (.int .i64 (bf : Int)) ∧ w'.cell? ⟨gf, o * 4 + 3, none⟩ = some v0 ∧ w'.frozen? ⟨gf, o * 4 + 3, none⟩ = false)) :=
  fun w' hb' => ⟨(hb'.cell (p := ⟨gf, o * 4, none⟩) x4).trans q0, (hb'.cell (p := ⟨gf, o * 4 + 2, none⟩) x4).trans q2, (hb'.cell (p := ⟨gf, o * 4 + 3, none⟩) x4).trans q3, (hb'.frozen (p := ⟨gf, o * 4 + 3, none⟩) x4).trans q4⟩
 have HS2 : Hid (∀ w', Below w.heap.size w w' → (w'.cell? ⟨gf, o * 4, none⟩ = some (.int .u64 (tg : Int)) ∧ w'.cell? ⟨gf, o * 4 + 2, none⟩ = some (.int .i64 (bf : Int)))) := fun w' h => ⟨(HSS.out w' h).1, (HSS.out w' h).2.1⟩
 have HTAG := Lib.hid htag
 obtain ⟨dl, hdl⟩ : ∃ dl, dl = tot - bf := ⟨_, rfl⟩
 have he1 : (tot : Int) - (bf : Int) = (dl : Int) := by omega
 have he2 : IntKind.i64.wrap ((tot : Int) - (bf : Int)) = (dl : Int) := by rw [he1]; exact IntWalk.i64_in _ (by omega)
 have he3 : IntKind.i64.wrap (dl : Int) = (dl : Int) := IntWalk.i64_in _ (by omega)
 have he4 : IntKind.u64.wrap (dl : Int) = (dl : Int) := IntWalk.u64_in _ (by omega)
 have hdl64 : dl < 18446744073709551616 := by omega
 have HDL := Lib.hid hdl
 have TOK := Lib.hid hb
 have hl1 := Lib.uvarint_length64 htag
 have hl2 := Lib.uvarint_length64 hdl64
 have hp1 : 0 < (uvarint tg).length := Lib.uvarint_pos tg
 clear hdl q0 q2 q3 q4 q5 c2 c3 htag
 go_cut [] from 22 to 40 (fun wx => Headed B w p S made ⟨s.raw, s.fs.set o (f.headed (uvarint tg ++ uvarint dl)), s.op, s.room⟩ vb (.slice (some ⟨gf, 0, none⟩) N cf) (.slice (some ⟨go, 0, none⟩) (K + 1) co) gf o (uvarint tg ++ uvarint dl).length wx)
 case first =>
  have r := HS2.out _ hbq
  go_region_held3 (fun w' => w'.cell? ⟨gf, o * 4, none⟩ = some (.int .u64 (tg : Int)) ∧ w'.cell? ⟨gf, o * 4 + 2, none⟩ = some (.int .i64 (bf : Int)))
   (first | exact hpost _ | exact HS2.out _ hbA5 | exact HS2.out _ hbA4 | exact HS2.out _ hbA3 | exact HS2.out _ hbA2 | exact HS2.out _ hbA1 | exact HS2.out _ hbq | exact r | go_keep)
   (first
   | (go_at_call 94; have tok := TOK.out; refine (put_new tg _ HTAG.out).mono ?_; rintro e w1 ⟨A1, cap1, rfl, hB1, hb1, ha1⟩; have hbA1 : Below w.heap.size w w1 := hbq.trans (Below.mono ⟨hb1.os, hb1.tape, hb1.output, hb1.size, hb1.block⟩ hbq.size); have HB1 := Lib.hid hB1; have HA1 := Lib.hid (show ∀ a, A1 = some a → w.heap.size ≤ a.block ∧ a.block < w1.heap.size from fun a ha => ⟨Nat.le_trans hbq.size (ha1 a ha).1, (ha1 a ha).2⟩); clear TOK tok hb1 hB1 ha1)
   | (go_at_call 80; refine (HLEN.out _ hbA1).mono ?_; rintro e w2 ⟨rfl, m, rfl⟩; have hbA2 : Below w.heap.size w (w1.drewN m) := hbA1.trans ((drew_below w1 m).mono hbA1.size))
   | (go_at_call 94; refine (put_new dl _ hdl64).mono ?_; rintro e w3 ⟨A3, cap3, rfl, hB3, hb3, ha3⟩; have hb13 : Below w1.heap.size w1 w3 := ⟨hb3.os, hb3.tape, hb3.output, hb3.size, hb3.block⟩; have hbA3 : Below w.heap.size w w3 := hbA1.trans (hb13.mono hbA1.size); have HB13 := Lib.hid (HB1.out.below hb13 (Nat.le_refl _)); have HA13 := Lib.hid (show ∀ a, A1 = some a → w.heap.size ≤ a.block ∧ a.block < w3.heap.size from fun a ha => ⟨(HA1.out a ha).1, Nat.lt_of_lt_of_le (HA1.out a ha).2 hb13.size⟩); have HB3 := Lib.hid hB3; have HA3 := Lib.hid (show ∀ a, A3 = some a → w.heap.size ≤ a.block ∧ a.block < w3.heap.size from fun a ha => ⟨Nat.le_trans hbA1.size (ha3 a ha).1, (ha3 a ha).2⟩); have hbA4 : Below w.heap.size w (w3.alloc (.cells #[.slice A1 (uvarint tg).length cap1, .slice A3 (uvarint dl).length cap3] 34)) := hbA3.alloc hbA3.size _; clear hb3 hB3 ha3 HB1 HA1)
   | (go_at_call 143; refine (concat_any _ (pcs_two (S := fun _ => False) (fun _ h => h.elim) _ HB13.out rfl (fun a ha => ⟨fun h => h, (HA13.out a ha).2⟩) HB3.out rfl (fun a ha => ⟨fun h => h, (HA3.out a ha).2⟩)) rfl (by simp only [List.flatten_cons, List.flatten_nil, List.append_nil, List.length_append]; omega) (by simp only [List.flatten_cons, List.flatten_nil, List.append_nil, List.length_append]; omega)).mono ?_; rintro e w4 ⟨A4, cap4, rfl, hB4, hb4, ha4⟩; have hbA5 : Below w.heap.size w w4 := hbA4.trans (hb4.mono hbA4.size); have HB4 := Lib.hid hB4; have HA4 := Lib.hid (show ∀ a, A4 = some a → w.heap.size ≤ a.block ∧ a.block < w4.heap.size from fun a ha => ⟨Nat.le_trans hbA4.size (ha4 a ha).1, (ha4 a ha).2⟩); have r3 := (HSS.out _ hbA5).2.2.1; have r4 := (HSS.out _ hbA5).2.2.2; have hpost : ∀ v, ((w4.setCell ⟨gf, o * 4 + 3, none⟩ v).cell? ⟨gf, o * 4, none⟩ = some (.int .u64 (tg : Int)) ∧ (w4.setCell ⟨gf, o * 4 + 3, none⟩ v).cell? ⟨gf, o * 4 + 2, none⟩ = some (.int .i64 (bf : Int))) := fun v => ⟨(cell_set_off _ gf v (by omega)).trans (HSS.out _ hbA5).1, (cell_set_off _ gf v (by omega)).trans (HSS.out _ hbA5).2.1⟩; clear hB4 hb4 ha4))
  all_goals
   go_wp2_with fail
   go_meet
  case rel =>
   have h1 := HAT.out
   rw [← HN.out, HOPL.out] at h1
   obtain ⟨S', q1, q2, q3⟩ := wr_head h1 hbA5 (gf := gf) (o := o) rfl HV0.out (n := (uvarint tg).length + (uvarint dl).length) (hd := uvarint tg ++ uvarint dl) (by have := HB4.out; simpa using this) (by rw [List.length_append]) HA4.out
   exact ⟨S', _, q1, q2, q3, A4, cap4, by rw [List.length_append]; exact World.cell?_setCell_same' _ _ _ (by rw [r3]; rfl)⟩
 case rest =>
  obtain ⟨S5, ps5, hat5, hs5, ht5, A5, cap5, hc5⟩ := hcut
  obtain ⟨hl, hhl⟩ : ∃ hl, hl = (uvarint tg ++ uvarint dl).length := ⟨_, rfl⟩
  have hl20 : hl ≤ 20 := by rw [hhl, List.length_append]; omega
  have hl0 : 0 < hl := by rw [hhl, List.length_append]; omega
  obtain ⟨rm, hrm⟩ : ∃ rm, rm = s.room := ⟨_, rfl⟩
  have hrml : rm ≤ tot := by have := HTOT.out; omega
  have d4 := obj_cell hat5.obj 4
  have d3 := obj_cell hat5.obj 3
  have f4 := obj_free hat5.obj 4
  dsimp only at d4 d3
  rw [← hrm] at d4 d3
  rw [← hhl] at hc5
  have hwr : IntKind.i64.wrap ((rm : Int) + (hl : Int)) = (rm : Int) + (hl : Int) := IntWalk.i64_in _ (by omega)
  have HAT5 := Lib.hid hat5
  have HS5 := Lib.hid hs5
  have HT5 := Lib.hid ht5
  have HHL := Lib.hid hhl
  have HRM := Lib.hid hrm
  clear hat5 hs5 ht5 hhl hrm
  go_wp2
  go_cut [] from 41 to 52 (fun wx => Headed2 B w p S made ⟨s.raw, s.fs.set o (f.headed (uvarint tg ++ uvarint dl)), s.op, rm + hl⟩ vb (.slice (some ⟨gf, 0, none⟩) N cf) (.slice (some ⟨go, 0, none⟩) (K + 1) co) wx)
  case first =>
   go_region_law (fail)
   all_goals
    go_wp2_with fail
    go_meet
    case rel =>
     have e := room_touch (r := rm + hl) HAT5.out HS5.out HT5.out
     rw [Int.natCast_add] at e
     exact e
  case rest =>
   obtain ⟨S6, ps6, hat6, hs6, ht6⟩ := hcut
   have e3 := obj_cell hat6.obj 3
   have g3 := obj_free hat6.obj 3
   have HEQ : Hid (s.shut1 init o f = ⟨s.raw, s.fs.set o (f.headed (uvarint tg ++ uvarint dl)), init, rm + hl⟩) := by
    show _ = _
    unfold Ws.shut1 Fr.headAt
    rw [← HTG.out, ← HBF.out, ← HTOT.out, ← HDL.out, ← HHL.out, ← HRM.out]
   have HTK : Hid (From B w p S made (s.shut1 init o f) (wc.setCell ⟨p, 3, none⟩ (.slice (some ⟨go, 0, none⟩) K co))) := by
    show From _ _ _ _ _ _ _
    have h2 := hat6
    rw [← HOPL.out] at h2
    obtain ⟨S7, z1, z2, z3⟩ := wr_take h2 HOP.out
    rw [HEQ.out]
    dsimp only at z1
    rw [← HK.out] at z1 z3
    refine ⟨S7, ⟨_, _, _, _, z1⟩, fun k hk => ?_, ht6.trans z3 hs6⟩
    rcases z2 k hk with q | q
    ·exact hs6 k q
    ·exact .inr (by have := ht6.size; omega)
   clear hat6 hs6 ht6 d3 d4 f4 hc5
   by_cases hK0 : K = 0
   ·have hinit : init = [] := List.eq_nil_of_length_eq_zero (by have := HK.out; omega)
    have HSH : Hid (s.shut init o f = (s.shut1 init o f).lay) := by show _ = _; rw [Ws.shut, if_pos hinit]
    obtain ⟨S7, hw7, hs7, ht7⟩ := HTK.out
    have hr1 : (s.shut1 init o f).room = rm + hl := by rw [HEQ.out]
    have hr2 : (s.shut1 init o f).raw.length + rm = tot := by rw [HEQ.out, HTOT.out, HRM.out]
    have hl3 : (s.shut1 init o f).fs.length = N := by rw [HEQ.out, List.length_set, ← HPSL.out, HN.out]
    have HLAY := Lib.hid (lay_any hw7 (HASC.out hinit) (HROOM.out hinit) (by omega) (by intro e; rw [e] at hl3; simp at hl3; omega) (by omega) (by omega))
    have HS7 := Lib.hid hs7
    have HT7 := Lib.hid ht7
    clear hinit hw7 hs7 ht7 hr1 hr2 hl3
    subst hK0
    go_wp2_with (go_at_call 144; refine HLAY.out.mono ?_; rintro e w8 ⟨⟨v, rfl⟩, S8, hw8, hs8, ht8⟩; have HW8 := Lib.hid hw8; have HS8 := Lib.hid hs8; have HT8 := Lib.hid ht8; clear hw8 hs8 ht8)
    go_ret
    rw [HSH.out]
    refine ⟨rfl, S8, HW8.out, fun k hk => ?_, HT7.out.trans HT8.out HS7.out⟩
    rcases HS8.out k hk with q | q
    ·exact HS7.out k q
    ·exact .inr (by have := HT7.out.size; omega)
   ·have HSH : Hid (s.shut init o f = s.shut1 init o f) := by
     show _ = _
     rw [Ws.shut, if_neg (fun e => hK0 (by rw [HK.out, e]; rfl))]
    have g : ((K : Int) == 0) = false := by simp; omega
    have hK1 : ¬ (K : Int) = 0 := by omega
    go_wp2
    go_ret
    rw [HSH.out]
    obtain ⟨S7, hw7, hs7, ht7⟩ := HTK.out
    exact ⟨rfl, S7, hw7, hs7, ht7⟩
end Go.Proofs.YtloheacncefkgaaGreatDoor

/- The document's writer: New, Plain, Field, Open, Close, Len. Conditions: those that each theorem names. -/
namespace Go.Proofs.YtloheacncefkgaaGreatDoor
open Go.RowKit
open Go.Lib (uvarint)
set_option linter.unusedVariables false
set_option maxRecDepth 100000

section
variable {B p : Nat} {S : Nat → Prop} {s : Rs} {vp vn : Value} {vs : List Value} {w w2 : World}
end

def Rs.plain (s : Rs) (init : List (List UInt8)) (last b : List UInt8) : Rs := ⟨init ++ [last ++ b], s.nums⟩
end Go.Proofs.YtloheacncefkgaaGreatDoor

/- Plain words (no program here): the writer and the document's say the same. -/
namespace Go.Proofs.YtloheacncefkgaaGreatDoor
open Go.Lib (uvarint)
set_option linter.unusedVariables false

/-- The writer's pieces in groups: what lies before the first open frame, and what lies in each. -/
structure Like (s : Ws) (m : Rs) (gs : List (List (List UInt8))) : Prop where
 asc : Asc s.raw.length s.fs
 room : s.room = headSum s.fs
 none_ : s.op = [] → s.fs = []
 flat : gs.flatten = alls s.raw s.fs
 parts : m.parts = gs.map List.flatten
 len : gs.length = s.op.length + 1
 nums : m.nums.length = s.op.length
 fr : ∀ (j o : Nat), s.op[j]? = some o → ∃ num f, m.nums[j]? = some num ∧ s.fs[o]? = some f ∧ f.head = [] ∧ f.tag = tagN num 2 ∧ rightB num 2 = true ∧ f.before = (m.parts.take (j + 1)).flatten.length ∧ o + 1 = (gs.take (j + 1)).flatten.length
 ne : ∀ g, g ∈ gs → g ≠ []
theorem like_new : Like ⟨[], [], [], 0⟩ ⟨[[]], []⟩ [[[]]] :=
 ⟨trivial, rfl, fun _ => rfl, rfl, rfl, rfl, rfl, (fun j o h => by simp at h), fun g hg => by simp at hg; simp [hg]⟩
theorem flat_map (gs : List (List (List UInt8))) : (gs.map List.flatten).flatten = gs.flatten.flatten := by
 induction gs with
 | nil => rfl
 | cons g gs ih => simp [ih]
section
variable {s : Ws} {m : Rs} {gs : List (List (List UInt8))}
theorem Like.total (h : Like s m gs) : s.raw.length + s.room = m.parts.flatten.length := by
 rw [h.parts, flat_map, h.flat, alls_total h.asc, h.room]
theorem Like.bytes (h : Like s m gs) (ho : s.op = []) : m.parts = [s.raw] := by
 have hl := h.len
 have hf := h.flat
 rw [h.none_ ho] at hf
 rw [ho] at hl
 match gs, hl, hf, h.parts with
 | [g], _, hf, hp =>
   simp [alls, nextP, pieces] at hf
   rw [hp, hf]
   simp
/-- The last group, and its last piece. -/
theorem Like.last (h : Like s m gs) : ∃ G g x, gs = G ++ [g ++ [x]] ∧ G.length = s.op.length := by
 have hl := h.len
 obtain ⟨G, g, rfl⟩ : ∃ G g, gs = G ++ [g] := ⟨gs.dropLast, gs.getLast (by intro e; rw [e] at hl; simp at hl), (List.dropLast_concat_getLast _).symm⟩
 have hG : G.length = s.op.length := by simpa using hl
 have hne : g ≠ [] := by
  intro e
  subst e
  have hf := congrArg List.length h.flat
  rw [alls_length] at hf
  simp only [List.flatten_append, List.flatten_cons, List.flatten_nil, List.append_nil] at hf
  rcases hop : s.op.length with _ | k
  ·rw [hop] at hG
   rw [List.eq_nil_of_length_eq_zero hG] at hf
   simp at hf
  ·obtain ⟨o, ho⟩ : ∃ o, s.op[k]? = some o := ⟨_, List.getElem?_eq_getElem (by omega)⟩
   obtain ⟨num, f, _, hfo, _, _, _, _, hq⟩ := h.fr k o ho
   rw [List.take_append_of_le_length (by omega), List.take_of_length_le (by omega)] at hq
   have := (List.getElem?_eq_some_iff.mp hfo).1
   omega
 exact ⟨G, g.dropLast, g.getLast hne, by rw [List.dropLast_concat_getLast], hG⟩
theorem Like.plain (h : Like s m gs) (b : List UInt8) : ∃ gs' init last, m.parts = init ++ [last] ∧ init.length = s.op.length ∧ Like (s.plain b) (m.plain init last b) gs' := by
 obtain ⟨G, g, x, rfl, hG⟩ := h.last
 obtain ⟨i, l, e1, e2⟩ := alls_more b h.asc
 have hf := h.flat
 rw [e1] at hf
 have hf2 : (G.flatten ++ g) ++ [x] = i ++ [l] := by rw [← hf]; simp
 obtain ⟨hi, hl⟩ := List.append_inj' hf2 rfl
 injection hl with hl
 subst hi hl
 have hp : m.parts = G.map List.flatten ++ [(g ++ [x]).flatten] := by rw [h.parts]; simp
 refine ⟨G ++ [g ++ [x ++ b]], G.map List.flatten, (g ++ [x]).flatten, hp, by simpa using hG, ⟨?_, h.room, h.none_, ?_, ?_, ?_, h.nums, fun j o ho => ?_, fun q hq => ?_⟩⟩
 ·show Asc (s.raw ++ b).length s.fs
  rw [List.length_append]
  exact asc_more _ h.asc
 ·show _ = alls (s.raw ++ b) s.fs
  rw [e2]; simp
 ·show _ ++ [_] = _
  simp
 ·show _ = s.op.length + 1
  simpa using h.len
 ·obtain ⟨num, f, a1, a2, a3, a4, a5, a6, a7⟩ := h.fr j o ho
  have hj : j < s.op.length := (List.getElem?_eq_some_iff.mp ho).1
  refine ⟨num, f, a1, a2, a3, a4, a5, ?_, ?_⟩
  ·rw [a6, hp]
   show _ = ((G.map List.flatten ++ [_]).take (j + 1)).flatten.length
   rw [List.take_append_of_le_length (by simp; omega), List.take_append_of_le_length (by simp; omega)]
  ·rw [a7, List.take_append_of_le_length (by omega), List.take_append_of_le_length (by omega)]
 ·rcases List.mem_append.mp hq with hq | hq
  ·exact h.ne q (List.mem_append_left _ hq)
  ·simp at hq; simp [hq]
theorem Like.opens (h : Like s m gs) (num : Int) (hr : rightB num 2 = true) : Like (s.opens num) ⟨m.parts ++ [[]], m.nums ++ [num]⟩ (gs ++ [[[]]]) := by
 have e : s.opens num = ⟨s.raw, s.fs ++ [⟨tagN num 2, s.raw.length, s.raw.length + s.room, []⟩], s.op ++ [s.fs.length], s.room⟩ := by unfold Ws.opens; rw [if_pos hr]
 have hpl : m.parts.length = s.op.length + 1 := by rw [h.parts, List.length_map, h.len]
 rw [e]
 refine ⟨asc_snoc (f := ⟨tagN num 2, s.raw.length, s.raw.length + s.room, []⟩) rfl h.asc, ?_, fun ho => by simp at ho, ?_, ?_, ?_, ?_, fun j o ho => ?_, fun q hq => ?_⟩
 ·show s.room = headSum (s.fs ++ _)
  rw [headSum_append, h.room]; simp [headSum]
 ·show _ = alls s.raw (s.fs ++ _)
  rw [alls_snoc (f := ⟨tagN num 2, s.raw.length, s.raw.length + s.room, []⟩) rfl rfl, ← h.flat]; simp
 ·show m.parts ++ [[]] = _
  rw [h.parts]; simp
 ·simp [h.len]
 ·simp [h.nums]
 ·change (s.op ++ [s.fs.length])[j]? = some o at ho
  by_cases hj : j < s.op.length
  ·rw [List.getElem?_append_left hj] at ho
   obtain ⟨num', f, a1, a2, a3, a4, a5, a6, a7⟩ := h.fr j o ho
   have hof := (List.getElem?_eq_some_iff.mp a2).1
   refine ⟨num', f, (List.getElem?_append_left (by have := h.nums; omega)).trans a1, (List.getElem?_append_left hof).trans a2, a3, a4, a5, ?_, ?_⟩
   ·show f.before = ((m.parts ++ [[]]).take (j + 1)).flatten.length
    rw [a6, List.take_append_of_le_length (by omega)]
   ·rw [a7, List.take_append_of_le_length (by have := h.len; omega)]
  ·rw [List.getElem?_append_right (by omega)] at ho
   cases hjj : j - s.op.length with
   | succ i => rw [hjj] at ho; simp at ho
   | zero =>
     rw [hjj] at ho
     simp at ho
     subst ho
     have hj' : j = s.op.length := by omega
     subst hj'
     refine ⟨num, ⟨tagN num 2, s.raw.length, s.raw.length + s.room, []⟩, ?_, ?_, rfl, rfl, hr, ?_, ?_⟩
     ·show (m.nums ++ [num])[s.op.length]? = _
      rw [List.getElem?_append_right (by have := h.nums; omega), h.nums, Nat.sub_self]; rfl
     ·show (s.fs ++ [_])[s.fs.length]? = _
      rw [List.getElem?_append_right (Nat.le_refl _), Nat.sub_self]; rfl
     ·show s.raw.length + s.room = ((m.parts ++ [[]]).take (s.op.length + 1)).flatten.length
      rw [List.take_append_of_le_length (by omega), List.take_of_length_le (by omega), h.total]
     ·rw [List.take_append_of_le_length (by have := h.len; omega), List.take_of_length_le (by have := h.len; omega), h.flat, alls_length]
 ·rcases List.mem_append.mp hq with hq | hq
  ·exact h.ne q hq
  ·simp at hq; simp [hq]
end
end Go.Proofs.YtloheacncefkgaaGreatDoor

/- Plain words (no program here): Close of the writer and of the document's. -/
namespace Go.Proofs.YtloheacncefkgaaGreatDoor
open Go.Lib (uvarint)
set_option linter.unusedVariables false

theorem Like.close {s : Ws} {m : Rs} {gs : List (List (List UInt8))} (h : Like s m gs) (hop : s.op ≠ []) :
 ∃ init o f ini pen last ns num gs', s.op = init ++ [o] ∧ s.fs[o]? = some f ∧ f.tag = tagN num 2 ∧ f.before ≤ s.raw.length + s.room ∧ Asc s.raw.length (s.shut1 init o f).fs ∧ (s.shut1 init o f).room = headSum (s.shut1 init o f).fs ∧
   m.parts = ini ++ [pen, last] ∧ m.nums = ns ++ [num] ∧ ns.length = ini.length ∧ rightB num 2 = true ∧ ini.length = init.length ∧
   Like (s.shut init o f) ⟨ini ++ [pen ++ (uvarint (tagN num 2) ++ (uvarint last.length ++ last))], ns⟩ gs' := by
 obtain ⟨init, o, hio⟩ : ∃ init o, s.op = init ++ [o] := ⟨s.op.dropLast, s.op.getLast hop, (List.dropLast_concat_getLast _).symm⟩
 have hol : s.op.length = init.length + 1 := by rw [hio]; simp
 obtain ⟨ns, num, hns⟩ : ∃ ns num, m.nums = ns ++ [num] := ⟨m.nums.dropLast, m.nums.getLast (by intro e; have := h.nums; rw [e] at this; simp at this; omega), (List.dropLast_concat_getLast _).symm⟩
 have hnl : ns.length = init.length := by have := h.nums; rw [hns, hol] at this; simpa using this
 obtain ⟨G', g, x, hgs, hG'⟩ := h.last
 obtain ⟨G, g1, rfl⟩ : ∃ G g1, G' = G ++ [g1] := ⟨G'.dropLast, G'.getLast (by intro e; rw [e] at hG'; simp at hG'; omega), (List.dropLast_concat_getLast _).symm⟩
 have hG : G.length = init.length := by rw [hol] at hG'; simpa using hG'
 obtain ⟨gl, hgl⟩ : ∃ gl, gl = g ++ [x] := ⟨_, rfl⟩
 rw [← hgl] at hgs
 subst hgs
 obtain ⟨num', f, a1, a2, a3, a4, a5, a6, a7⟩ := h.fr init.length o (by rw [hio, List.getElem?_append_right (Nat.le_refl _), Nat.sub_self]; rfl)
 have hnn : num' = num := by rw [hns, List.getElem?_append_right (by omega), hnl, Nat.sub_self] at a1; simpa using a1.symm
 subst hnn
 have hp : m.parts = G.map List.flatten ++ [g1.flatten, gl.flatten] := by rw [h.parts]; simp
 have htk : (G ++ [g1] ++ [gl]).take (init.length + 1) = G ++ [g1] := by
  rw [List.take_append_of_le_length (by simp [hG]), List.take_of_length_le (by simp [hG])]
 rw [htk] at a7
 have htot := h.total
 have hbl : f.before + gl.flatten.length = s.raw.length + s.room := by
  rw [a6, htot, hp]
  have : (G.map List.flatten ++ [g1.flatten, gl.flatten]).take (init.length + 1) = G.map List.flatten ++ [g1.flatten] := by
   rw [show G.map List.flatten ++ [g1.flatten, gl.flatten] = (G.map List.flatten ++ [g1.flatten]) ++ [gl.flatten] by simp, List.take_append_of_le_length (by simp [hG]), List.take_of_length_le (by simp [hG])]
  rw [this]
  simp
  omega
 obtain ⟨hd, hhd⟩ : ∃ hd, hd = f.headAt (s.raw.length + s.room) := ⟨_, rfl⟩
 have hhd2 : hd = uvarint (tagN num' 2) ++ uvarint gl.flatten.length := by
  rw [hhd, Fr.headAt, a4, show s.raw.length + s.room - f.before = gl.flatten.length by omega]
 obtain ⟨a, y, b, e1, e2, e3⟩ := alls_set (raw := s.raw) (g := f.headed hd) a2 a3 rfl
 have hf := h.flat
 rw [e1] at hf
 obtain ⟨h1, h2⟩ := List.append_inj (show (G ++ [g1]).flatten ++ gl = a ++ y :: b by rw [← hf]; simp) (by omega)
 have hasc : Asc s.raw.length (s.fs.set o (f.headed hd)) := asc_set o a2 rfl h.asc
 have hroom : s.room + hd.length = headSum (s.fs.set o (f.headed hd)) := by rw [headSum_set _ _ a2 a3, h.room]; rfl
 have hnew : alls s.raw (s.fs.set o (f.headed hd)) = (G ++ [g1]).flatten ++ ((hd ++ y) :: b) := by rw [e3, h1]; rfl
 have hpart : (g1 ++ ((hd ++ y) :: b)).flatten = g1.flatten ++ (uvarint (tagN num' 2) ++ (uvarint gl.flatten.length ++ gl.flatten)) := by
  have hx : ((hd ++ y) :: b).flatten = hd ++ gl.flatten := by rw [h2]; simp
  rw [List.flatten_append, hx, hhd2]; simp
 have hshut1 : s.shut1 init o f = ⟨s.raw, s.fs.set o (f.headed hd), init, s.room + hd.length⟩ := by rw [Ws.shut1, hhd]
 have hrest : ∃ gs', Like (s.shut init o f) ⟨G.map List.flatten ++ [g1.flatten ++ (uvarint (tagN num' 2) ++ (uvarint gl.flatten.length ++ gl.flatten))], ns⟩ gs' := by
  unfold Ws.shut
  rw [hshut1]
  by_cases hin : init = []
  ·rw [if_pos hin]
   have hG0 : G = [] := List.eq_nil_of_length_eq_zero (by rw [hG, hin]; rfl)
   have hn0 : ns = [] := List.eq_nil_of_length_eq_zero (by rw [hnl, hin]; rfl)
   have hraw : s.raw.take (nextP s.raw.length (s.fs.set o (f.headed hd))) ++ laid s.raw (s.fs.set o (f.headed hd)) = g1.flatten ++ (uvarint (tagN num' 2) ++ (uvarint gl.flatten.length ++ gl.flatten)) := by
    rw [← alls_flat, hnew, hG0, ← hpart]; simp
   unfold Ws.lay
   rw [hraw, hG0, hn0, hin]
   refine ⟨[[g1.flatten ++ (uvarint (tagN num' 2) ++ (uvarint gl.flatten.length ++ gl.flatten))]], ⟨trivial, rfl, fun _ => rfl, ?_, ?_, rfl, rfl, (fun j o h => by simp at h), fun q hq => by simp at hq; simp [hq]⟩⟩
   ·rw [alls, pieces, nextP, List.take_length]; rfl
   ·simp
  ·rw [if_neg hin]
   refine ⟨G ++ [g1 ++ ((hd ++ y) :: b)], ⟨hasc, hroom, fun e => absurd e hin, ?_, ?_, by simp [hG], hnl, fun j oj hj => ?_, fun q hq => ?_⟩⟩
   ·show _ = alls s.raw (s.fs.set o (f.headed hd))
    rw [hnew]; simp
   ·show _ ++ [_] = _
    rw [List.map_append, List.map_cons, List.map_nil, hpart]
   ·change init[j]? = some oj at hj
    have hjl : j < init.length := (List.getElem?_eq_some_iff.mp hj).1
    obtain ⟨nj, fj, b1, b2, b3, b4, b5, b6, b7⟩ := h.fr j oj (by rw [hio, List.getElem?_append_left hjl]; exact hj)
    have htj : (G ++ [g1] ++ [gl]).take (j + 1) = G.take (j + 1) := by
     rw [List.take_append_of_le_length (by simp; omega), List.take_append_of_le_length (by omega)]
    have hne : o ≠ oj := by
     intro e
     rw [htj, ← e] at b7
     rw [b7] at a7
     have : (G.take (j + 1)).flatten.length ≤ G.flatten.length := by
      conv => rhs; rw [← List.take_append_drop (j + 1) G]
      rw [List.flatten_append, List.length_append]; omega
     have hg1 := List.length_pos_iff.mpr (h.ne g1 (by simp))
     simp only [List.flatten_append, List.length_append, List.flatten_cons, List.flatten_nil, List.length_nil, Nat.add_zero] at a7
     omega
    refine ⟨nj, fj, ?_, ?_, b3, b4, b5, ?_, ?_⟩
    ·rw [hns, List.getElem?_append_left (by omega)] at b1; exact b1
    ·show (s.fs.set o _)[oj]? = _
     rw [List.getElem?_set_ne hne]; exact b2
    ·show fj.before = ((G.map List.flatten ++ [_]).take (j + 1)).flatten.length
     rw [b6, hp, List.take_append_of_le_length (by simp; omega), List.take_append_of_le_length (by simp; omega)]
    ·rw [b7, htj, List.take_append_of_le_length (by omega)]
   ·rcases List.mem_append.mp hq with hq | hq
    ·exact h.ne q (by simp [hq])
    ·simp at hq; simp [hq]
 obtain ⟨gs', hlike⟩ := hrest
 exact ⟨init, o, f, G.map List.flatten, g1.flatten, gl.flatten, ns, num', gs', hio, a2, a4, by omega, by rw [hshut1]; exact hasc, by rw [hshut1]; exact hroom, hp, hns, by simp [hnl, hG], a5, by simp [hG], hlike⟩
end Go.Proofs.YtloheacncefkgaaGreatDoor

/- A writer as like as plain parts, call by call. Conditions: those that each theorem names. -/
namespace Go.Proofs.YtloheacncefkgaaGreatDoor
open Go.RowKit
open Go.Lib (uvarint)
set_option linter.unusedVariables false

/-- The writer at p says the same as these parts, of frames of these numbers. -/
def Says (B : Nat) (w : World) (p : Nat) (F : Nat) (m : Rs) : Prop := ∃ S s gs, Wr B w p S true s ∧ Like s m gs ∧ s.fs.length ≤ F
section
variable {B p F : Nat} {w : World} {m : Rs}
theorem Says.bel (h : Says B w p F m) {w' : World} (hb : Below w.heap.size w w') : Says B w' p F m := by
 obtain ⟨S, s, gs, h1, h2, h3⟩ := h
 exact ⟨S, s, gs, h1.bel hb, h2, h3⟩
end
end Go.Proofs.YtloheacncefkgaaGreatDoor

/- The writer as layer 21 uses it: what is written, or is too long already; what each call on it leaves. Conditions: those that each theorem names. -/
namespace Go.Proofs.YtloheacncefkgaaGreatDoor
open Go.RowKit
open Go.Lib (uvarint)
set_option linter.unusedVariables false

/-- What a call that writes bs leaves of the last part a, ahead of which lie t0 bytes: all of it, or what is too long already. -/
def Wrote (t0 : Nat) (a bs a' : List UInt8) : Prop := a' = a ++ bs ∨ (65536 < t0 + a'.length ∧ a.length ≤ a'.length ∧ a'.length ≤ a.length + bs.length)
section
variable {t0 : Nat} {a a1 a2 b c : List UInt8}
theorem wrote_len (h : Wrote t0 a b a1) : a.length ≤ a1.length ∧ a1.length ≤ a.length + b.length := by
 rcases h with rfl | ⟨_, h1, h2⟩
 ·rw [List.length_append]; exact ⟨Nat.le_add_right _ _, Nat.le_refl _⟩
 ·exact ⟨h1, h2⟩
theorem wrote_nil (t0 : Nat) (a : List UInt8) : Wrote t0 a [] a := .inl (List.append_nil a).symm
theorem wrote_trans (h1 : Wrote t0 a b a1) (h2 : Wrote t0 a1 c a2) : Wrote t0 a (b ++ c) a2 := by
 have k1 := wrote_len h1
 have k2 := wrote_len h2
 rcases h2 with rfl | ⟨q, _, _⟩
 ·rcases h1 with rfl | ⟨q, _, _⟩
  ·exact .inl (List.append_assoc _ _ _)
  ·rw [List.length_append] at k2
   refine .inr ⟨?_, ?_, ?_⟩ <;> rw [List.length_append] <;> (try rw [List.length_append]) <;> omega
 ·refine .inr ⟨q, by omega, ?_⟩
  rw [List.length_append]
  omega
theorem wrote_stop (h1 : Wrote t0 a b a1) (hl : 65536 < t0 + a1.length) (c : List UInt8) : Wrote t0 a (b ++ c) a1 := by
 have k1 := wrote_len h1
 refine .inr ⟨hl, k1.1, ?_⟩
 rw [List.length_append]
 omega
theorem uv_mono : ∀ (n a b : Nat), b < n → a ≤ b → (uvarint a).length ≤ (uvarint b).length
 | 0, _, _, h, _ => absurd h (Nat.not_lt_zero _)
 | n + 1, a, b, h, hab => by
   by_cases hb : b < 128
   ·rw [Lib.uvarint_small hb, Lib.uvarint_small (by omega)]; exact Nat.le_refl _
   ·rw [Lib.uvarint_big (by omega : 128 ≤ b)]
    by_cases ha : a < 128
    ·rw [Lib.uvarint_small ha, List.length_cons, List.length_cons, List.length_nil]; omega
    ·rw [Lib.uvarint_big (by omega : 128 ≤ a), List.length_cons, List.length_cons]
     have := uv_mono n (a / 128) (b / 128) (by omega) (Nat.div_le_div_right hab)
     omega
theorem frB_len (num : Int) (b : List UInt8) : (frB num b).length = (uvarint (tagN num 2)).length + ((uvarint b.length).length + b.length) := by
 rw [frB, List.length_append, List.length_append]
theorem wrote_frame {num : Int} {inn : List UInt8} (h : Wrote (t0 + a.length) [] b inn) : Wrote t0 a (frB num b) (a ++ frB num inn) := by
 have k := wrote_len h
 rcases h with e | ⟨q, _, _⟩
 ·rw [List.nil_append] at e; rw [e]; exact .inl rfl
 ·have h2 := frB_len num b
  have h3 := frB_len num inn
  have h4 := uv_mono (b.length + 1) inn.length b.length (by omega) (by simpa using k.2)
  rw [List.length_nil] at k
  refine .inr ⟨?_, ?_, ?_⟩ <;> rw [List.length_append] <;> omega
/-- In the end. -/
theorem wrote_end {bs a' : List UInt8} (h : Wrote 0 [] bs a') : (65536 < a'.length ∧ 65536 < bs.length) ∨ (¬ 65536 < a'.length ∧ ¬ 65536 < bs.length ∧ a' = bs) := by
 have k := wrote_len h
 rw [List.length_nil] at k
 by_cases hl : 65536 < a'.length
 ·exact .inl ⟨hl, by omega⟩
 ·rcases h with e | ⟨q, _, _⟩
  ·rw [List.nil_append] at e; rw [e] at hl ⊢; exact .inr ⟨hl, hl, rfl⟩
  ·omega
end

/-- The writer at p says the same as these parts. -/
def SaysE (B : Nat) (w : World) (p : Nat) (S : Nat → Prop) (m : Rs) : Prop := ∃ s gs, Wr B w p S true s ∧ Like s m gs ∧ s.fs.length ≤ m.parts.flatten.length + m.nums.length
/-- The writer at p in a later world: what it hangs on has come of S0 or is new, all else is as it was. -/
def EnAt (B : Nat) (S0 : Nat → Prop) (w0 u : World) (p : Nat) (m : Rs) : Prop := ∃ S', SaysE B u p S' m ∧ (∀ k, S' k → S0 k ∨ w0.heap.size ≤ k) ∧ Touch S0 w0 u
section
variable {B p : Nat} {S S0 : Nat → Prop} {w w0 u u' : World} {m m' : Rs}
theorem says_e_new (w : World) : SaysE w.heap.size (w.alloc (.cells #[.bool true, .slice none 0 0, .slice none 0 0, .slice none 0 0, .int .i64 0] 112)) w.heap.size (fun k => k = w.heap.size) ⟨[[]], []⟩ :=
 ⟨_, _, wr_new w true, like_new, Nat.zero_le _⟩
theorem SaysE.lt (h : SaysE B w p S m) : ∀ k, S k → B ≤ k ∧ k < w.heap.size := by
 obtain ⟨s, gs, h1, _⟩ := h; exact h1.lt
theorem SaysE.bel_e (h : SaysE B w p S m) {w' : World} (hb : Below w.heap.size w w') : SaysE B w' p S m := by
 obtain ⟨s, gs, h1, h2, h3⟩ := h
 exact ⟨s, gs, h1.bel hb, h2, h3⟩
theorem enAt_refl (h : SaysE B w p S m) : EnAt B S w w p m := ⟨S, h, fun _ hk => .inl hk, Touch.refl _ _⟩
theorem enAt_bel (h : EnAt B S0 w0 u p m) (hb : Below u.heap.size u u') : EnAt B S0 w0 u' p m := by
 obtain ⟨S', h1, h2, h3⟩ := h
 exact ⟨S', h1.bel_e hb, h2, h3.then_below hb⟩
theorem enAt_touch (h : EnAt B S0 w0 u p m) : Touch S0 w0 u := by obtain ⟨_, _, _, h⟩ := h; exact h
/-- From a world between. -/
theorem enAt_more {S' : Nat → Prop} (hs : ∀ k, S' k → S0 k ∨ w0.heap.size ≤ k) (ht : Touch S0 w0 u) (h : EnAt B S' u u' p m) : EnAt B S0 w0 u' p m := by
 obtain ⟨S2, h1, h2, h3⟩ := h
 exact ⟨S2, h1, fun k hk => by rcases h2 k hk with q | q; exact hs k q; exact .inr (Nat.le_trans ht.size q), ht.trans h3 hs⟩
theorem e_len (h : EnAt B S0 w0 u p m) (hm : m.parts.flatten.length ≤ 1000000000000) : Calls Tryz.prog 80 #[.pointer (some ⟨p, 0, none⟩)] u fun e w' => e = .returned (.int .i64 (m.parts.flatten.length : Int)) ∧ Below u.heap.size u w' := by
 obtain ⟨S', ⟨s, gs, h1, h2, h3⟩, _⟩ := h
 have ht := h2.total
 refine (wlen_any h1 (by omega)).mono ?_
 rintro e w' ⟨rfl, n, rfl⟩
 rw [ht]
 exact ⟨rfl, drew_below u n⟩
theorem e_open (h : EnAt B S0 w0 u p m) (num : Int) (hr : rightB num 2 = true) (hm : m.parts.flatten.length ≤ 500000000000) (hn : m.nums.length ≤ 100000000000) :
 Calls Tryz.prog 118 #[.pointer (some ⟨p, 0, none⟩), .int .i64 num] u fun e w' => e = .returned (.bool true) ∧ EnAt B S0 w0 w' p ⟨m.parts ++ [[]], m.nums ++ [num]⟩ := by
 obtain ⟨S', ⟨s, gs, h1, h2, h3⟩, h4, h5⟩ := h
 have ht := h2.total
 have hl := h2.nums
 refine (wopen_any h1 num (by omega) (by omega) (by omega)).mono ?_
 rintro e w' ⟨rfl, S2, a1, a2, a3⟩
 rw [hr]
 refine ⟨rfl, enAt_more h4 h5 ⟨S2, ⟨_, _, a1, h2.opens num hr, ?_⟩, a2, a3⟩⟩
 unfold Ws.opens
 rw [if_pos hr]
 simp
 simp at h3
 omega
theorem e_plain (h : SaysE B u p S m) {A : Option Addr} {n cap : Nat} {bs : List UInt8} {init : List (List UInt8)} {last : List UInt8} (hp : m.parts = init ++ [last]) (hm : m.parts.flatten.length ≤ 500000000000) (hb : bs.length ≤ 500000000000) (hpc : Pcs u S A cap [bs]) (hn : n = 1) :
 Calls Tryz.prog 121 #[.pointer (some ⟨p, 0, none⟩), .slice A n cap] u fun e w' => e = .returned (.bool true) ∧ EnAt B S u w' p ⟨init ++ [last ++ bs], m.nums⟩ := by
 obtain ⟨s, gs, h1, h2, h3⟩ := h
 have ht := h2.total
 have hfl : ([bs] : List (List UInt8)).flatten = bs := by simp
 refine (plain_any h1 hpc hn (by rw [hfl]; omega)).mono ?_
 rintro e w' ⟨rfl, S2, a1, a2, a3⟩
 rw [hfl] at a1
 obtain ⟨gs', i2, l2, b1, b2, b3⟩ := h2.plain bs
 obtain ⟨e1, e2⟩ := List.append_inj' (b1.symm.trans hp) rfl
 injection e2 with e2
 subst e1 e2
 refine ⟨rfl, S2, ⟨_, gs', a1, b3, ?_⟩, a2, a3⟩
 show s.fs.length ≤ _
 refine Nat.le_trans h3 ?_
 rw [hp]
 simp [Nat.add_assoc]
 try omega
theorem e_text (h : EnAt B S0 w0 u p m) (num : Int) (hr : rightB num 2 = true) (t : List UInt8) {init : List (List UInt8)} {last : List UInt8} (hp : m.parts = init ++ [last]) (hm : m.parts.flatten.length ≤ 500000000000) (ht : t.length ≤ 500000000000) :
 Calls Tryz.prog 72 #[.pointer (some ⟨p, 0, none⟩), .int .i64 num, .string (strOf t)] u fun e w' => e = .returned (.bool true) ∧ EnAt B S0 w0 w' p ⟨init ++ [last ++ frB num t], m.nums⟩ := by
 obtain ⟨S', ⟨s, gs, h1, h2, h3⟩, h4, h5⟩ := h
 have htt := h2.total
 refine (wtext_any h1 num t (by omega)).mono ?_
 rintro e w' ⟨rfl, S2, a1, a2, a3⟩
 rw [hr]
 obtain ⟨gs', i2, l2, b1, b2, b3⟩ := h2.plain (frB num t)
 obtain ⟨e1, e2⟩ := List.append_inj' (b1.symm.trans hp) rfl
 injection e2 with e2
 subst e1 e2
 have e3 : s.field num 2 (uvarint t.length ++ t) = s.plain (frB num t) := by unfold Ws.field; rw [if_pos hr]; rfl
 rw [e3] at a1
 refine ⟨rfl, enAt_more h4 h5 ⟨S2, ⟨_, gs', a1, b3, ?_⟩, a2, a3⟩⟩
 show s.fs.length ≤ _
 refine Nat.le_trans h3 ?_
 rw [hp]
 simp [Nat.add_assoc]
 try omega
theorem e_close (h : EnAt B S0 w0 u p m) {ini : List (List UInt8)} {pen last : List UInt8} {ns : List Int} {num : Int} (hp : m.parts = ini ++ [pen, last]) (hn : m.nums = ns ++ [num]) (hm : m.parts.flatten.length ≤ 500000000000) (hnl : m.nums.length ≤ 100000000000) :
 Calls Tryz.prog 119 #[.pointer (some ⟨p, 0, none⟩)] u fun e w' => e = .returned (.bool true) ∧ EnAt B S0 w0 w' p ⟨ini ++ [pen ++ frB num last], ns⟩ := by
 obtain ⟨S', ⟨s, gs, h1, h2, h3⟩, h4, h5⟩ := h
 have ht0 := h2.total
 have hl := h2.nums
 have hop : s.op ≠ [] := by intro e; rw [e, hn] at hl; simp at hl
 obtain ⟨init, o, f, ini', pen', last', ns', nm', gs', c1, c2, c3, c4, c5, c6, c7, c8, c9, c10, c11, c12⟩ := h2.close hop
 have ex : ini' = ini ∧ pen' = pen ∧ last' = last := by
  have e := c7.symm.trans hp
  rw [show ini' ++ [pen', last'] = (ini' ++ [pen']) ++ [last'] by simp, show ini ++ [pen, last] = (ini ++ [pen]) ++ [last] by simp] at e
  obtain ⟨e1, e2⟩ := List.append_inj' e rfl
  obtain ⟨e3, e4⟩ := List.append_inj' e1 rfl
  simp at e2 e4
  exact ⟨e3, e4, e2⟩
 obtain ⟨rfl, rfl, rfl⟩ := ex
 obtain ⟨e1, e2⟩ := List.append_inj' (c8.symm.trans hn) rfl
 injection e2 with e2
 subst e1 e2
 have htag := tagN_lt nm' 2
 refine (wclose_any h1 c1 c2 (by rw [c3]; omega) c4 (by omega) (by omega) (by omega) (fun _ => c5) (fun _ => c6)).mono ?_
 rintro e w' ⟨rfl, S2, a1, a2, a3⟩
 refine ⟨rfl, enAt_more h4 h5 ⟨S2, ⟨_, gs', a1, c12, ?_⟩, a2, a3⟩⟩
 have h6 : (s.shut init o f).fs.length ≤ s.fs.length := by unfold Ws.shut Ws.shut1 Ws.lay; split <;> simp
 have h7 := frB_len nm' last'
 have h8 := uvarint_pos' (tagN nm' 2)
 rw [hp, hn] at h3
 simp at h3 h7 ⊢
 omega
theorem e_bytes {bs : List UInt8} (h : EnAt B S0 w0 u p ⟨[bs], []⟩) (hm : bs.length ≤ 500000000000) :
 Calls Tryz.prog 33 #[.pointer (some ⟨p, 0, none⟩)] u (Gives u bs) := by
 obtain ⟨S', ⟨s, gs, h1, h2, h3⟩, h4, h5⟩ := h
 have hl := h2.nums
 have hop : s.op = [] := List.eq_nil_of_length_eq_zero (by rw [← hl]; rfl)
 have hb := h2.bytes hop
 have hb' : bs = s.raw := by simpa using hb
 subst hb'
 exact wbytes_any h1 hop (by omega)
end
end Go.Proofs.YtloheacncefkgaaGreatDoor

/- The program's layer 21: long, plain, each at slots, values and fields of the Rest. Conditions: those that each theorem names. -/
namespace Go.Proofs.YtloheacncefkgaaGreatDoor
open Go.RowKit
open Go.Lib (uvarint)
set_option linter.unusedVariables false
set_option maxRecDepth 100000

theorem parts_len (init : List (List UInt8)) (a : List UInt8) : (init ++ [a]).flatten.length = init.flatten.length + a.length := by simp
theorem plong_any {B p : Nat} {S0 : Nat → Prop} {w0 u : World} {m : Rs} (h : EnAt B S0 w0 u p m) {k : Nat} (hk : m.parts.flatten.length = k) (hm : k ≤ 1000000000000) :
 Calls Tryz.prog 32 #[.pointer (some ⟨p, 0, none⟩)] u fun e w' => e = .returned (.bool (decide (65536 < k))) ∧ Below u.heap.size u w' := by
 subst hk
 have HL := Lib.hid (e_len h hm)
 obtain ⟨k, hk⟩ : ∃ k, k = m.parts.flatten.length := ⟨_, rfl⟩
 rw [← hk] at HL ⊢
 clear h hm hk
 by_cases hl : 65536 < k
 ·have g1 : decide ((k : Int) > 65536) = true := decide_eq_true (by omega)
  have g2 : decide ((65536 : Int) < (k : Int)) = true := decide_eq_true (by omega)
  rw [decide_eq_true hl]
  go_enter Tryz.func32, Tryz.ntmps32
  go_wp2_with (go_at_call 80; refine HL.out.mono ?_; rintro e w2 ⟨rfl, hb⟩; have HB := Lib.hid hb; clear hb)
  go_ret
  exact ⟨rfl, HB.out⟩
 ·have g1 : decide ((k : Int) > 65536) = false := decide_eq_false (by omega)
  have g2 : decide ((65536 : Int) < (k : Int)) = false := decide_eq_false (by omega)
  rw [decide_eq_false hl]
  go_enter Tryz.func32, Tryz.ntmps32
  go_wp2_with (go_at_call 80; refine HL.out.mono ?_; rintro e w2 ⟨rfl, hb⟩; have HB := Lib.hid hb; clear hb)
  go_ret
  exact ⟨rfl, HB.out⟩
theorem raws_built (w : World) (x : Rw) (t : TypeId) : Raws (w.alloc (.cells #[.int .i64 x.num, .int .i64 x.wire, .int .u64 (x.n : Int), .string (strOf x.s)] t)) (some ⟨w.heap.size, 0, none⟩) 1 [x] := by
 refine ⟨Nat.le_refl _, by decide, fun j y hj => ?_⟩
 cases j with
 | succ j => simp at hj
 | zero =>
   obtain rfl : x = y := by simpa using hj
   have h := heap_alloc_new w (.cells #[.int .i64 x.num, .int .i64 x.wire, .int .u64 (x.n : Int), .string (strOf x.s)] t)
   exact ⟨_, 0, rfl, obj_cell h 0, obj_cell h 1, obj_cell h 2, obj_cell h 3⟩
theorem allR_one {x : Rw} (h : okR x = true) : allR [x] = true := allR_all (fun j a ha => by
 cases j with
 | succ j => simp at ha
 | zero =>
   obtain rfl : x = a := by simpa using ha
   exact h)
theorem putR_one (x : Rw) : putR [x] = bytesR x := by show bytesR x ++ [] = _; rw [List.append_nil]
set_option maxHeartbeats 4000000 in
theorem pplain_any {B p : Nat} {S0 : Nat → Prop} {w0 u : World} {init : List (List UInt8)} {a : List UInt8} {nums : List Int} (h : EnAt B S0 w0 u p ⟨init ++ [a], nums⟩) (x : Rw) (ho : okR x = true) (hn : x.n < 18446744073709551616) (hs : x.s.length ≤ 100000000000) (hm : init.flatten.length + a.length ≤ 400000000000) :
 Calls Tryz.prog 79 #[.pointer (some ⟨p, 0, none⟩), rawV x] u fun e w' => (∃ v, e = .returned v) ∧ EnAt B S0 w0 w' p ⟨init ++ [a ++ bytesR x], nums⟩ := by
 have hlen := bytesR_lo (r := x) hn (by omega)
 have HPL : Hid (∀ (u2 u3 : World) (q : Nat), u2.heap.size = q → Below u.heap.size u u2 → u3 = u2.alloc (.cells #[.int .i64 x.num, .int .i64 x.wire, .int .u64 (x.n : Int), .string (strOf x.s)] 93) → Calls Tryz.prog 120 #[.slice (some ⟨q, 0, none⟩) 1 1] u3 (fun e w' => ∃ (A : Option Addr) (c : Nat), e = .returned (.tuple #[.slice A (bytesR x).length c, .int .i64 0]) ∧ Bs w' A c (bytesR x) ∧ Below u.heap.size u w' ∧ ∀ a, A = some a → u.heap.size ≤ a.block ∧ a.block < w'.heap.size)) := Lib.hid (fun u2 u3 q hq hb e3 => by
  subst hq
  have hb3 : Below u.heap.size u u3 := by rw [e3]; exact hb.alloc hb.size _
  refine (put_long u3 (some ⟨u2.heap.size, 0, none⟩) 1 1 [x] (by rw [e3]; exact raws_built u2 x _) rfl (fun y hy => by obtain rfl : y = x := (by simpa using hy); exact ⟨hn, by omega⟩) (fun k => ?_)).mono ?_
  ·have h1 := putR_append ([x].take k) ([x].drop k)
   rw [List.take_append_drop, putR_one] at h1
   have h2 := congrArg List.length h1
   rw [List.length_append] at h2
   omega
  ·rintro e w' ⟨A, n, c, k, rfl, hbw, h1, _, h4⟩
   obtain ⟨rfl, rfl, hB⟩ := h1 (allR_one ho)
   rw [putR_one] at hB
   rw [putR_one]
   exact ⟨A, c, rfl, hB, hb3.trans (hbw.mono hb3.size), fun a ha => ⟨Nat.le_trans hb3.size (h4 a ha).1, (h4 a ha).2⟩⟩)
 have HP : Hid (∀ (u2 u3 : World) (A : Option Addr) (c : Nat), Below u.heap.size u u2 → Bs u2 A c (bytesR x) → (∀ a, A = some a → u.heap.size ≤ a.block ∧ a.block < u2.heap.size) → u3 = u2.alloc (.cells #[.slice A (bytesR x).length c] 34) → Calls Tryz.prog 121 #[.pointer (some ⟨p, 0, none⟩), .slice (some ⟨u2.heap.size, 0, none⟩) 1 1] u3 (fun e w' => e = .returned (.bool true) ∧ EnAt B S0 w0 w' p ⟨init ++ [a ++ bytesR x], nums⟩)) := Lib.hid (fun u2 u3 A c hb hB hA e3 => by
  obtain ⟨S', q1, q2, q3⟩ := h
  have hl1 := q1.lt
  have hb3 : Below u.heap.size u u3 := by rw [e3]; exact hb.alloc hb.size _
  refine (e_plain (m := ⟨init ++ [a], nums⟩) (q1.bel_e hb3) rfl (by show (init ++ [a]).flatten.length ≤ _; rw [parts_len]; omega) (by omega) ?_ rfl).mono (fun e w' hh => ⟨hh.1, enAt_more q2 q3 (enAt_more (fun _ hk => .inl hk) (Touch.of_below S' hb3) hh.2)⟩)
  rw [e3]
  exact pcs_one (fun k hk => Nat.lt_of_lt_of_le (hl1 k hk).2 hb.size) _ hB rfl (fun b e => ⟨fun hk => by have := (hl1 _ hk).2; have := (hA b e).1; omega, (hA b e).2⟩))
 obtain ⟨num, wire, n, t⟩ := x
 obtain ⟨bs, hbs⟩ : ∃ bs, bs = bytesR ⟨num, wire, n, t⟩ := ⟨_, rfl⟩
 unfold rawV
 rw [← hbs] at HPL HP ⊢
 dsimp only at HPL HP ⊢
 clear h ho hn hs hm hlen hbs
 generalize strOf t = st at *
 have HB1 : Hid (Below u.heap.size u (u.alloc (.cells #[.int .i64 num, .int .i64 wire, .int .u64 (n : Int), .string st] 93))) := (Below.refl _ u).alloc (Nat.le_refl _) _
 go_enter Tryz.func79, Tryz.ntmps79
 go_wp2_with (first
  | (go_at_call 120; refine (HPL.out _ _ _ (by simp) HB1.out rfl).mono ?_; rintro e w2 ⟨A, c, rfl, hB, hb, hA⟩; have HB2 := Lib.hid hB; have HBL := Lib.hid hb; have HA := Lib.hid hA; clear hB hb hA)
  | (go_at_call 121; refine (HP.out _ _ _ _ HBL.out HB2.out HA.out rfl).mono ?_; rintro e w3 ⟨rfl, hea⟩; have HEA := Lib.hid hea; clear hea))
 go_end0
 exact ⟨⟨_, rfl⟩, HEA.out⟩

set_option maxHeartbeats 4000000 in
theorem eac_sl {S : Nat → Prop} {n : Nat} {A : Option Addr} {cap na : Nat} {l : List Slt} {B p : Nat} {S0 : Nat → Prop} {init : List (List UInt8)} {a : List UInt8} {nums : List Int} (w : World) (h : Lst 2 S (slR (trR S n) S) w A cap l) (hn : na = l.length) (kf : Nat) (caps : Array Value) (henter : Enters Tryz.prog kf) (hs : SaysE B w p S0 ⟨init ++ [a], nums⟩) (hD : ∀ k, S k → ¬ S0 k) (g : Slt → List UInt8)
 (hbound : init.flatten.length + a.length + (l.flatMap g).length ≤ 400000000000)
 (hp : ∀ (i : Nat) x, l[i]? = some x → ∀ wr a' A1 c1 , EnAt B S0 w wr p ⟨init ++ [a'], nums⟩ → init.flatten.length + a'.length + (g x).length ≤ 400000000000 → VsAt S n wr A1 c1 x.svals → Calls Tryz.prog kf (#[.pointer (some ⟨p, 0, none⟩), .agg #[.int .i64 x.snum, .slice A1 x.svals.length c1]] ++ caps) wr fun e w' => (∃ v, e = .returned v) ∧ ∃ a2, Wrote init.flatten.length a' (g x) a2 ∧ EnAt B S0 w w' p ⟨init ++ [a2], nums⟩) :
 Calls Tryz.prog 77 #[.pointer (some ⟨p, 0, none⟩), .slice A na cap, .func (.func kf) #[] caps] w fun e w' => (∃ v, e = .returned v) ∧ ∃ a2, Wrote init.flatten.length a (l.flatMap g) a2 ∧ EnAt B S0 w w' p ⟨init ++ [a2], nums⟩ := by
 have q1 : na ≤ cap := by have := h.l_le; omega
 have q2 := h.l_max
 unfold maxLen at q2
 have hent : ∀ (args : Array Value) (w : World), (callFunc kf args).run Tryz.prog w = .ok (.enter kf args) w := henter
 have HL := Lib.hid h
 have HN := Lib.hid hn
 have HP := Lib.hid hp
 have HD := Lib.hid hD
 have H0 := Lib.hid (enAt_refl hs)
 have HBD := Lib.hid hbound
 clear h hn hp henter hD hs hbound
 go_enter Tryz.func77, Tryz.ntmps77
 go_wp2
 go_loopw [10] (fun x wr => ∃ (i : Nat) (a' : List UInt8), x = .int .i64 (i : Int) ∧ i ≤ na ∧ Wrote init.flatten.length a ((l.take i).flatMap g) a' ∧ EnAt B S0 w wr p ⟨init ++ [a'], nums⟩) (fun x _ => na - (intOf x).toNat)
 case atStart => exact ⟨0, a, rfl, Nat.zero_le _, wrote_nil _ _, H0.out⟩
 case round =>
  obtain ⟨i, a', rfl, hi, hwt, hea⟩ := hrel
  have HWT := Lib.hid hwt
  have HE0 := Lib.hid hea
  have hfm : l.flatMap g = (l.take i).flatMap g ++ (l.drop i).flatMap g := by rw [← List.flatMap_append, List.take_append_drop]
  have hfl := congrArg List.length hfm
  rw [List.length_append] at hfl
  have hwl := wrote_len hwt
  have HFM := Lib.hid hfm
  have HTL : Hid (init.flatten.length + a'.length ≤ 400000000000) := Lib.hid (by have := HBD.out; omega)
  clear hwt hea
  by_cases hlt : i < na
  ·have g1 : decide ((i : Int) < (na : Int)) = true := decide_eq_true (by omega)
   obtain ⟨x, hx⟩ : ∃ x, l[i]? = some x := ⟨_, List.getElem?_eq_getElem (by have := HN.out; omega)⟩
   have hdr : (l.drop i).flatMap g = g x ++ (l.drop (i + 1)).flatMap g := by
    obtain ⟨hil, e⟩ := List.getElem?_eq_some_iff.mp hx
    rw [List.drop_eq_getElem_cons hil, e, List.flatMap_cons]
   have hdl := congrArg List.length hdr
   rw [List.length_append] at hdl
   have HBN : Hid (init.flatten.length + a'.length + (g x).length ≤ 400000000000) := Lib.hid (by have := HBD.out; omega)
   have HTK : Hid ((l.take (i + 1)).flatMap g = (l.take i).flatMap g ++ g x) := Lib.hid (by rw [List.take_add_one, hx, List.flatMap_append]; show _ ++ (g x ++ []) = _; rw [List.append_nil])
   clear hfm hfl hwl hdr hdl
   obtain ⟨ge, oe, A1, c1, rfl, hge, hc, hl⟩ := sl_at HL.out hx
   have HCK := Lib.hid (fun u (hu : Below wr.heap.size wr u) (he : EnAt B S0 w u p ⟨init ++ [a'], nums⟩) => HP.out i x hx u a' A1 c1 he HBN.out (vsAt_keep hl (fun _ h => h) (stay_touch (enAt_touch he) HD.out)))
   obtain ⟨nv, hnv⟩ : ∃ nv, nv = x.svals.length := ⟨_, rfl⟩
   obtain ⟨z1, hz1⟩ : ∃ z1, z1 = x.snum := ⟨_, rfl⟩
   rw [← hnv, ← hz1] at hc HCK
   obtain ⟨c0, c1'⟩ := hc _ (stay_touch (enAt_touch HE0.out) HD.out)
   have HBX := Lib.hid (bx_start wr #[.int .i64 z1, .slice A1 nv c1] 67)
   have HLG := Lib.hid (fun u (he : EnAt B S0 w u p ⟨init ++ [a'], nums⟩) => plong_any he (parts_len init a') (by have := HTL.out; omega))
   obtain ⟨tt, htt⟩ : ∃ tt, tt = init.flatten.length + a'.length := ⟨_, rfl⟩
   rw [← htt] at HLG
   have HTT := Lib.hid htt
   clear hc hl hnv hz1 hge hx htt
   by_cases hlo : 65536 < tt
   ·rw [decide_eq_true hlo] at HLG
    go_wp2_with (go_at_call 32; refine (HLG.out _ (enAt_bel HE0.out HBX.out.b_bel)).mono ?_; rintro e w2 ⟨rfl, hb⟩; have HE2 := Lib.hid (enAt_bel (enAt_bel HE0.out HBX.out.b_bel) hb); clear hb)
    (try simp only [Exit.inBlock, Exit.then])
    refine bodyPost_ret (results_none rfl _ _ _) rfl ?_
    refine ⟨⟨_, rfl⟩, a', ?_, HE2.out⟩
    rw [HFM.out]
    exact wrote_stop HWT.out (by have := HTT.out; omega) _
   ·rw [decide_eq_false hlo] at HLG
    go_wp2_with (first
     | (go_at_call 32; refine (HLG.out _ (enAt_bel HE0.out HBX.out.b_bel)).mono ?_; rintro e w2 ⟨rfl, hb⟩; have HE2 := Lib.hid (enAt_bel (enAt_bel HE0.out HBX.out.b_bel) hb); replace HBX := Lib.hid (bx_step HBX.out hb); have e0 := obj_cell HBX.out.b_blk 0; have e1 := obj_cell HBX.out.b_blk 1; clear hb)
     | (go_at_fn kf; refine (HCK.out _ HBX.out.b_bel HE2.out).mono ?_; rintro e w3 ⟨⟨v, rfl⟩, a2, hwt2, hea2⟩; have HW3 := Lib.hid hwt2; have HE3 := Lib.hid hea2; clear hwt2 hea2))
    go_roundw
    case rel => exact ⟨i + 1, a2, by go_num, by omega, by rw [HTK.out]; exact wrote_trans HWT.out HW3.out, HE3.out⟩
    case measure => simp [intOf]; omega
  ·have g1 : decide ((i : Int) < (na : Int)) = false := decide_eq_false (by omega)
   have e : l.take i = l := List.take_of_length_le (by have := HN.out; omega)
   rw [e] at HWT
   clear hfm hfl hwl e
   go_wp2
   go_end0
   exact ⟨⟨_, rfl⟩, a', HWT.out, HE0.out⟩

set_option maxHeartbeats 4000000 in
theorem eac_rw {S : Nat → Prop} {n : Nat} {A : Option Addr} {cap na : Nat} {l : List Rw} {B p : Nat} {S0 : Nat → Prop} {init : List (List UInt8)} {a : List UInt8} {nums : List Int} (w : World) (h : Lst 4 S rwR w A cap l) (hn : na = l.length) (kf : Nat) (caps : Array Value) (henter : Enters Tryz.prog kf) (hs : SaysE B w p S0 ⟨init ++ [a], nums⟩) (hD : ∀ k, S k → ¬ S0 k) (g : Rw → List UInt8)
 (hbound : init.flatten.length + a.length + (l.flatMap g).length ≤ 400000000000)
 (hp : ∀ (i : Nat) x, l[i]? = some x → ∀ wr a' , EnAt B S0 w wr p ⟨init ++ [a'], nums⟩ → init.flatten.length + a'.length + (g x).length ≤ 400000000000 → Calls Tryz.prog kf (#[.pointer (some ⟨p, 0, none⟩), rawV x] ++ caps) wr fun e w' => (∃ v, e = .returned v) ∧ ∃ a2, Wrote init.flatten.length a' (g x) a2 ∧ EnAt B S0 w w' p ⟨init ++ [a2], nums⟩) :
 Calls Tryz.prog 78 #[.pointer (some ⟨p, 0, none⟩), .slice A na cap, .func (.func kf) #[] caps] w fun e w' => (∃ v, e = .returned v) ∧ ∃ a2, Wrote init.flatten.length a (l.flatMap g) a2 ∧ EnAt B S0 w w' p ⟨init ++ [a2], nums⟩ := by
 have q1 : na ≤ cap := by have := h.l_le; omega
 have q2 := h.l_max
 unfold maxLen at q2
 have hent : ∀ (args : Array Value) (w : World), (callFunc kf args).run Tryz.prog w = .ok (.enter kf args) w := henter
 have HL := Lib.hid h
 have HN := Lib.hid hn
 have HP := Lib.hid hp
 have HD := Lib.hid hD
 have H0 := Lib.hid (enAt_refl hs)
 have HBD := Lib.hid hbound
 clear h hn hp henter hD hs hbound
 go_enter Tryz.func78, Tryz.ntmps78
 go_wp2
 go_loopw [10] (fun x wr => ∃ (i : Nat) (a' : List UInt8), x = .int .i64 (i : Int) ∧ i ≤ na ∧ Wrote init.flatten.length a ((l.take i).flatMap g) a' ∧ EnAt B S0 w wr p ⟨init ++ [a'], nums⟩) (fun x _ => na - (intOf x).toNat)
 case atStart => exact ⟨0, a, rfl, Nat.zero_le _, wrote_nil _ _, H0.out⟩
 case round =>
  obtain ⟨i, a', rfl, hi, hwt, hea⟩ := hrel
  have HWT := Lib.hid hwt
  have HE0 := Lib.hid hea
  have hfm : l.flatMap g = (l.take i).flatMap g ++ (l.drop i).flatMap g := by rw [← List.flatMap_append, List.take_append_drop]
  have hfl := congrArg List.length hfm
  rw [List.length_append] at hfl
  have hwl := wrote_len hwt
  have HFM := Lib.hid hfm
  have HTL : Hid (init.flatten.length + a'.length ≤ 400000000000) := Lib.hid (by have := HBD.out; omega)
  clear hwt hea
  by_cases hlt : i < na
  ·have g1 : decide ((i : Int) < (na : Int)) = true := decide_eq_true (by omega)
   obtain ⟨x, hx⟩ : ∃ x, l[i]? = some x := ⟨_, List.getElem?_eq_getElem (by have := HN.out; omega)⟩
   have hdr : (l.drop i).flatMap g = g x ++ (l.drop (i + 1)).flatMap g := by
    obtain ⟨hil, e⟩ := List.getElem?_eq_some_iff.mp hx
    rw [List.drop_eq_getElem_cons hil, e, List.flatMap_cons]
   have hdl := congrArg List.length hdr
   rw [List.length_append] at hdl
   have HBN : Hid (init.flatten.length + a'.length + (g x).length ≤ 400000000000) := Lib.hid (by have := HBD.out; omega)
   have HTK : Hid ((l.take (i + 1)).flatMap g = (l.take i).flatMap g ++ g x) := Lib.hid (by rw [List.take_add_one, hx, List.flatMap_append]; show _ ++ (g x ++ []) = _; rw [List.append_nil])
   clear hfm hfl hwl hdr hdl
   obtain ⟨ge, oe, rfl, hge, hc⟩ := rw_at HL.out hx
   have HCK := Lib.hid (fun u (hu : Below wr.heap.size wr u) (he : EnAt B S0 w u p ⟨init ++ [a'], nums⟩) => HP.out i x hx u a' he HBN.out)
   unfold rawV at HCK
   obtain ⟨z0, hz0⟩ : ∃ z0, z0 = x.num := ⟨_, rfl⟩
   obtain ⟨z1, hz1⟩ : ∃ z1, z1 = x.wire := ⟨_, rfl⟩
   obtain ⟨z2, hz2⟩ : ∃ z2 : Int, z2 = (x.n : Int) := ⟨_, rfl⟩
   obtain ⟨z3, hz3⟩ : ∃ z3, z3 = strOf x.s := ⟨_, rfl⟩
   rw [← hz0, ← hz1, ← hz2, ← hz3] at hc HCK
   obtain ⟨c0, c1', c2, c3⟩ := hc _ (stay_touch (enAt_touch HE0.out) HD.out)
   have HBX := Lib.hid (bx_start wr #[.int .i64 z0, .int .i64 z1, .int .u64 z2, .string z3] 93)
   have HLG := Lib.hid (fun u (he : EnAt B S0 w u p ⟨init ++ [a'], nums⟩) => plong_any he (parts_len init a') (by have := HTL.out; omega))
   obtain ⟨tt, htt⟩ : ∃ tt, tt = init.flatten.length + a'.length := ⟨_, rfl⟩
   rw [← htt] at HLG
   have HTT := Lib.hid htt
   clear hc hz0 hz1 hz2 hz3 hge hx htt
   by_cases hlo : 65536 < tt
   ·rw [decide_eq_true hlo] at HLG
    go_wp2_with (go_at_call 32; refine (HLG.out _ (enAt_bel HE0.out HBX.out.b_bel)).mono ?_; rintro e w2 ⟨rfl, hb⟩; have HE2 := Lib.hid (enAt_bel (enAt_bel HE0.out HBX.out.b_bel) hb); clear hb)
    (try simp only [Exit.inBlock, Exit.then])
    refine bodyPost_ret (results_none rfl _ _ _) rfl ?_
    refine ⟨⟨_, rfl⟩, a', ?_, HE2.out⟩
    rw [HFM.out]
    exact wrote_stop HWT.out (by have := HTT.out; omega) _
   ·rw [decide_eq_false hlo] at HLG
    go_wp2_with (first
     | (go_at_call 32; refine (HLG.out _ (enAt_bel HE0.out HBX.out.b_bel)).mono ?_; rintro e w2 ⟨rfl, hb⟩; have HE2 := Lib.hid (enAt_bel (enAt_bel HE0.out HBX.out.b_bel) hb); replace HBX := Lib.hid (bx_step HBX.out hb); have e0 := obj_cell HBX.out.b_blk 0; have e1 := obj_cell HBX.out.b_blk 1; have e2 := obj_cell HBX.out.b_blk 2; have e3 := obj_cell HBX.out.b_blk 3; clear hb)
     | (go_at_fn kf; refine (HCK.out _ HBX.out.b_bel HE2.out).mono ?_; rintro e w3 ⟨⟨v, rfl⟩, a2, hwt2, hea2⟩; have HW3 := Lib.hid hwt2; have HE3 := Lib.hid hea2; clear hwt2 hea2))
    go_roundw
    case rel => exact ⟨i + 1, a2, by go_num, by omega, by rw [HTK.out]; exact wrote_trans HWT.out HW3.out, HE3.out⟩
    case measure => simp [intOf]; omega
  ·have g1 : decide ((i : Int) < (na : Int)) = false := decide_eq_false (by omega)
   have e : l.take i = l := List.take_of_length_le (by have := HN.out; omega)
   rw [e] at HWT
   clear hfm hfl hwl e
   go_wp2
   go_end0
   exact ⟨⟨_, rfl⟩, a', HWT.out, HE0.out⟩

set_option maxHeartbeats 4000000 in
theorem eac_va {S : Nat → Prop} {n : Nat} {A : Option Addr} {cap na : Nat} {l : List Va} {B p : Nat} {S0 : Nat → Prop} {init : List (List UInt8)} {a : List UInt8} {nums : List Int} (w : World) (h : VsAt S n w A cap l) (hn : na = l.length) (kf : Nat) (caps : Array Value) (henter : Enters Tryz.prog kf) (hs : SaysE B w p S0 ⟨init ++ [a], nums⟩) (hD : ∀ k, S k → ¬ S0 k) (g : Va → List UInt8)
 (hbound : init.flatten.length + a.length + (l.flatMap g).length ≤ 400000000000)
 (hp : ∀ (i : Nat) x, l[i]? = some x → ∀ wr a' A1 c1 , EnAt B S0 w wr p ⟨init ++ [a'], nums⟩ → init.flatten.length + a'.length + (g x).length ≤ 400000000000 → KsAt S n wr A1 c1 x.vm → Calls Tryz.prog kf (#[.pointer (some ⟨p, 0, none⟩), .agg #[.int .u64 (x.vn : Int), .string (strOf x.vs), .slice A1 x.vm.length c1]] ++ caps) wr fun e w' => (∃ v, e = .returned v) ∧ ∃ a2, Wrote init.flatten.length a' (g x) a2 ∧ EnAt B S0 w w' p ⟨init ++ [a2], nums⟩) :
 Calls Tryz.prog 74 #[.pointer (some ⟨p, 0, none⟩), .slice A na cap, .func (.func kf) #[] caps] w fun e w' => (∃ v, e = .returned v) ∧ ∃ a2, Wrote init.flatten.length a (l.flatMap g) a2 ∧ EnAt B S0 w w' p ⟨init ++ [a2], nums⟩ := by
 have q1 : na ≤ cap := by have := h.l_le; omega
 have q2 := h.l_max
 unfold maxLen at q2
 have hent : ∀ (args : Array Value) (w : World), (callFunc kf args).run Tryz.prog w = .ok (.enter kf args) w := henter
 have HL := Lib.hid h
 have HN := Lib.hid hn
 have HP := Lib.hid hp
 have HD := Lib.hid hD
 have H0 := Lib.hid (enAt_refl hs)
 have HBD := Lib.hid hbound
 clear h hn hp henter hD hs hbound
 go_enter Tryz.func74, Tryz.ntmps74
 go_wp2
 go_loopw [10] (fun x wr => ∃ (i : Nat) (a' : List UInt8), x = .int .i64 (i : Int) ∧ i ≤ na ∧ Wrote init.flatten.length a ((l.take i).flatMap g) a' ∧ EnAt B S0 w wr p ⟨init ++ [a'], nums⟩) (fun x _ => na - (intOf x).toNat)
 case atStart => exact ⟨0, a, rfl, Nat.zero_le _, wrote_nil _ _, H0.out⟩
 case round =>
  obtain ⟨i, a', rfl, hi, hwt, hea⟩ := hrel
  have HWT := Lib.hid hwt
  have HE0 := Lib.hid hea
  have hfm : l.flatMap g = (l.take i).flatMap g ++ (l.drop i).flatMap g := by rw [← List.flatMap_append, List.take_append_drop]
  have hfl := congrArg List.length hfm
  rw [List.length_append] at hfl
  have hwl := wrote_len hwt
  have HFM := Lib.hid hfm
  have HTL : Hid (init.flatten.length + a'.length ≤ 400000000000) := Lib.hid (by have := HBD.out; omega)
  clear hwt hea
  by_cases hlt : i < na
  ·have g1 : decide ((i : Int) < (na : Int)) = true := decide_eq_true (by omega)
   obtain ⟨x, hx⟩ : ∃ x, l[i]? = some x := ⟨_, List.getElem?_eq_getElem (by have := HN.out; omega)⟩
   have hdr : (l.drop i).flatMap g = g x ++ (l.drop (i + 1)).flatMap g := by
    obtain ⟨hil, e⟩ := List.getElem?_eq_some_iff.mp hx
    rw [List.drop_eq_getElem_cons hil, e, List.flatMap_cons]
   have hdl := congrArg List.length hdr
   rw [List.length_append] at hdl
   have HBN : Hid (init.flatten.length + a'.length + (g x).length ≤ 400000000000) := Lib.hid (by have := HBD.out; omega)
   have HTK : Hid ((l.take (i + 1)).flatMap g = (l.take i).flatMap g ++ g x) := Lib.hid (by rw [List.take_add_one, hx, List.flatMap_append]; show _ ++ (g x ++ []) = _; rw [List.append_nil])
   clear hfm hfl hwl hdr hdl
   obtain ⟨ge, oe, A1, c1, rfl, hge, hc, hl⟩ := va_at HL.out hx
   have HCK := Lib.hid (fun u (hu : Below wr.heap.size wr u) (he : EnAt B S0 w u p ⟨init ++ [a'], nums⟩) => HP.out i x hx u a' A1 c1 he HBN.out (ksAt_keep hl (fun _ h => h) (stay_touch (enAt_touch he) HD.out)))
   obtain ⟨nv, hnv⟩ : ∃ nv, nv = x.vm.length := ⟨_, rfl⟩
   obtain ⟨z1, hz1⟩ : ∃ z1 : Int, z1 = (x.vn : Int) := ⟨_, rfl⟩
   obtain ⟨z2, hz2⟩ : ∃ z2, z2 = strOf x.vs := ⟨_, rfl⟩
   rw [← hnv, ← hz1, ← hz2] at hc HCK
   obtain ⟨c0, c1', c2⟩ := hc _ (stay_touch (enAt_touch HE0.out) HD.out)
   have HBX := Lib.hid (bx_start wr #[.int .u64 z1, .string z2, .slice A1 nv c1] 64)
   have HLG := Lib.hid (fun u (he : EnAt B S0 w u p ⟨init ++ [a'], nums⟩) => plong_any he (parts_len init a') (by have := HTL.out; omega))
   obtain ⟨tt, htt⟩ : ∃ tt, tt = init.flatten.length + a'.length := ⟨_, rfl⟩
   rw [← htt] at HLG
   have HTT := Lib.hid htt
   clear hc hl hnv hz1 hz2 hge hx htt
   by_cases hlo : 65536 < tt
   ·rw [decide_eq_true hlo] at HLG
    go_wp2_with (go_at_call 32; refine (HLG.out _ (enAt_bel HE0.out HBX.out.b_bel)).mono ?_; rintro e w2 ⟨rfl, hb⟩; have HE2 := Lib.hid (enAt_bel (enAt_bel HE0.out HBX.out.b_bel) hb); clear hb)
    (try simp only [Exit.inBlock, Exit.then])
    refine bodyPost_ret (results_none rfl _ _ _) rfl ?_
    refine ⟨⟨_, rfl⟩, a', ?_, HE2.out⟩
    rw [HFM.out]
    exact wrote_stop HWT.out (by have := HTT.out; omega) _
   ·rw [decide_eq_false hlo] at HLG
    go_wp2_with (first
     | (go_at_call 32; refine (HLG.out _ (enAt_bel HE0.out HBX.out.b_bel)).mono ?_; rintro e w2 ⟨rfl, hb⟩; have HE2 := Lib.hid (enAt_bel (enAt_bel HE0.out HBX.out.b_bel) hb); replace HBX := Lib.hid (bx_step HBX.out hb); have e0 := obj_cell HBX.out.b_blk 0; have e1 := obj_cell HBX.out.b_blk 1; have e2 := obj_cell HBX.out.b_blk 2; clear hb)
     | (go_at_fn kf; refine (HCK.out _ HBX.out.b_bel HE2.out).mono ?_; rintro e w3 ⟨⟨v, rfl⟩, a2, hwt2, hea2⟩; have HW3 := Lib.hid hwt2; have HE3 := Lib.hid hea2; clear hwt2 hea2))
    go_roundw
    case rel => exact ⟨i + 1, a2, by go_num, by omega, by rw [HTK.out]; exact wrote_trans HWT.out HW3.out, HE3.out⟩
    case measure => simp [intOf]; omega
  ·have g1 : decide ((i : Int) < (na : Int)) = false := decide_eq_false (by omega)
   have e : l.take i = l := List.take_of_length_le (by have := HN.out; omega)
   rw [e] at HWT
   clear hfm hfl hwl e
   go_wp2
   go_end0
   exact ⟨⟨_, rfl⟩, a', HWT.out, HE0.out⟩
end Go.Proofs.YtloheacncefkgaaGreatDoor
