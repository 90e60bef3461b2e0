/- Several texts in one: EmC. What each proves, and its conditions, stands at its own head. -/
import Derived.Test.YtnhaeapkncnimaaPkR37
import Derived.Test.YtnhaeapkncnimaaPkR26
import Derived.Test.YtnhaeapkncnimaaPkR11
import Derived.Test.YtnhaeapkncnimaaPkR25
import Derived.Test.YtnhaeapkncnimaaPkR27
import Derived.Deep.RegionHeld3
import Derived.Deep.CutRange
import Derived.Maps.AppendAt
/- Close. Conditions: those that each theorem names. -/
namespace Go.Proofs.Ytnhaeapkncnimaa
open Go.RowKit
open Go.Lib (uvarint)
set_option linter.unusedVariables false
set_option maxRecDepth 100000

theorem wclose_no2 {B p : Nat} {S : Nat → Prop} {made : Bool} {s : Ws} {w : World} (h : Wr B w p S made s) (hop : s.op = []) :
    Calls Try.prog 18 #[.pointer (some ⟨p, 0, none⟩)] w fun e w' => e = .returned (.bool false) ∧ w = w' := by
  have HD := Lib.hid (wdeep_any h)
  rw [hop] at HD
  clear h hop
  go_enter Try.func18, Try.ntmps18
  go_wp2_with (go_at_call 13; refine HD.out.mono ?_; rintro e w' ⟨rfl, rfl⟩)
  go_ret
  exact ⟨rfl, rfl⟩
theorem wclose_no {B p : Nat} {S : Nat → Prop} {made : Bool} {s : Ws} {w : World} (h : Wr B w p S made s) (hop : s.op = []) :
    Calls Try.prog 18 #[.pointer (some ⟨p, 0, none⟩)] w (WrTo B w p S made s (.bool false)) :=
  (wclose_no2 h hop).mono fun _ _ ⟨he, hw⟩ => by subst hw; exact ⟨he, S, h, fun _ hk => .inl hk, Touch.refl _ _⟩
theorem wclose_nil (w : World) : Calls Try.prog 18 #[.pointer none] w fun e w' => e = .returned (.bool false) ∧ w = w' := by
  go_enter Try.func18, Try.ntmps18
  go_wp2_with (go_at_call 13; refine (deep_nil _).mono ?_; rintro e w' ⟨rfl, rfl⟩)
  go_ret
  exact ⟨rfl, rfl⟩

theorem cell_set_off (w : World) (g : Nat) (v : Value) {i j : Nat} (h : i ≠ j) : (w.setCell ⟨g, i, none⟩ v).cell? ⟨g, j, none⟩ = w.cell? ⟨g, j, none⟩ := by
  apply World.cell?_setCell_other
  intro e
  cases e
  exact h rfl
/-- The state behind the head's statement. -/
def Headed (B : Nat) (w : World) (p : Nat) (S : Nat → Prop) (made : Bool) (s' : Ws) (vb vf vo : Value) (gf o : Nat) (n : Nat) (wx : World) : Prop :=
  ∃ S' ps, WrAt B wx p S' made s' vb vf vo ps ∧ (∀ k, S' k → S k ∨ w.heap.size ≤ k) ∧ Touch S w wx ∧ ∃ A cap, wx.cell? ⟨gf, o * 4 + 3, none⟩ = some (.slice A n cap)

def Headed2 (B : Nat) (w : World) (p : Nat) (S : Nat → Prop) (made : Bool) (s' : Ws) (vb vf vo : Value) (wx : World) : Prop :=
  ∃ S' ps, WrAt B wx p S' made s' vb vf vo ps ∧ (∀ k, S' k → S k ∨ w.heap.size ≤ k) ∧ Touch S w wx
theorem room_touch {B p r : Nat} {S S' : Nat → Prop} {made : Bool} {s : Ws} {vb vf vo : Value} {ps : List (Fr × Value)} {w w5 : World} (h : WrAt B w5 p S' made s vb vf vo ps) (hs : ∀ k, S' k → S k ∨ w.heap.size ≤ k) (ht : Touch S w w5) :
    Headed2 B w p S made ⟨s.raw, s.fs, s.op, r⟩ vb vf vo ((w5.setCell ⟨p, 4, none⟩ (.int .i64 (r : Int))).drew) :=
  ⟨S', ps, (wr_room h r).keep (fun _ _ => rfl) (Nat.le_refl _), hs, (ht.set (q := ⟨p, 4, none⟩) (hs p h.sp) _).drew⟩

set_option maxHeartbeats 4000000 in
theorem wclose_any {B p : Nat} {S : Nat → Prop} {made : Bool} {s : Ws} {w : World} (h : Wr B w p S made s) {init : List Nat} {o : Nat} {f : Fr} (hop : s.op = init ++ [o]) (hf : s.fs[o]? = some f)
    (htag : f.tag < 18446744073709551616) (hbef : f.before ≤ s.raw.length + s.room) (hb : s.raw.length + s.room ≤ 1099511627776) (hfs : s.fs.length ≤ 1099511627776) (hol : s.op.length ≤ 1099511627776)
    (hasc : init = [] → Asc s.raw.length (s.shut1 init o f).fs) (hroom : init = [] → (s.shut1 init o f).room = headSum (s.shut1 init o f).fs) :
    Calls Try.prog 18 #[.pointer (some ⟨p, 0, none⟩)] w (WrTo B w p S made (s.shut init o f) (.bool true)) := by
  have HD := Lib.hid (wdeep_any h)
  have HLEN := Lib.hid (fun (w' : World) (hbl : Below w.heap.size w w') => wlen_any (h.bel hbl) (by omega))
  have HWR := Lib.hid h
  obtain ⟨vb, vf, vo, ps, hat⟩ := h
  obtain ⟨v0, hv0⟩ : ∃ v0, ps[o]? = some (f, v0) := by
    have := hf
    rw [← hat.fs, List.getElem?_map, Option.map_eq_some_iff] at this
    obtain ⟨q, hq, e⟩ := this
    exact ⟨q.2, by rw [hq, ← e]⟩
  have hol1 : o < ps.length := (List.getElem?_eq_some_iff.1 hv0).1
  have hpsl : ps.length = s.fs.length := by rw [← hat.fs, List.length_map]
  obtain ⟨gf, cf, hvf, x1, x2, x3, x4⟩ := own_pos hat.row (by omega)
  obtain ⟨go, co, hvo, y1, y2, y3, y4⟩ := own_pos hat.op (by rw [hop]; simp)
  subst hvf hvo
  have c2 := obj_cell hat.obj 2
  have c3 := obj_cell hat.obj 3
  have q0 : w.cell? ⟨gf, o * 4, none⟩ = some (.int .u64 (f.tag : Int)) := own_cell hat.row (g := gf) rfl ((frRow_get hv0 (i := 0) (by omega)).trans rfl)
  have q2 : w.cell? ⟨gf, o * 4 + 2, none⟩ = some (.int .i64 (f.before : Int)) := own_cell hat.row (g := gf) rfl ((frRow_get hv0 (i := 2) (by omega)).trans rfl)
  have q3 : w.cell? ⟨gf, o * 4 + 3, none⟩ = some v0 := own_cell hat.row (g := gf) rfl ((frRow_get hv0 (i := 3) (by omega)).trans rfl)
  have q4 : w.frozen? ⟨gf, o * 4 + 3, none⟩ = false := own_free hat.row (g := gf) rfl _
  obtain ⟨K, hK⟩ : ∃ K, K = init.length := ⟨_, rfl⟩
  have hopl : s.op.length = K + 1 := by rw [hop, hK]; simp
  have q5 : w.cell? ⟨go, K, none⟩ = some (.int .i64 (o : Int)) := own_cell hat.op (g := go) rfl (by rw [hop, ints_append, List.getElem?_append_right (by rw [ints_length]; omega), ints_length, hK, Nat.sub_self]; rfl)
  rw [hopl] at c2 c3 HD y2
  have hK2 : K + 1 ≤ 1099511627776 := by omega
  obtain ⟨N, hN⟩ : ∃ N, N = ps.length := ⟨_, rfl⟩
  rw [← hN] at c2 c3 hol1 x2
  obtain ⟨tg, htg⟩ : ∃ tg, tg = f.tag := ⟨_, rfl⟩
  obtain ⟨bf, hbf⟩ : ∃ bf, bf = f.before := ⟨_, rfl⟩
  obtain ⟨tot, htot⟩ : ∃ tot, tot = s.raw.length + s.room := ⟨_, rfl⟩
  rw [← htg] at q0 htag
  rw [← hbf] at q2 hbef
  rw [← htot] at HLEN hbef hb
  unfold maxLen at x3 y3
  have hN2 : N ≤ 1099511627776 := by omega
  have HAT := Lib.hid hat
  have HOP := Lib.hid hop
  have HV0 := Lib.hid hv0
  have HK := Lib.hid hK
  have HN := Lib.hid hN
  have HTG := Lib.hid htg
  have HBF := Lib.hid hbf
  have HTOT := Lib.hid htot
  have HASC := Lib.hid hasc
  have HROOM := Lib.hid hroom
  have HOPL := Lib.hid hopl
  have HPSL := Lib.hid hpsl
  have HF := Lib.hid hf
  clear hat hop hv0 hK hN htg hbf htot hasc hroom hopl hpsl hf hfs hol
  go_enter Try.func18, Try.ntmps18
  go_wp2_with (go_at_call 13; refine HD.out.mono ?_; rintro e w' ⟨rfl, rfl⟩)
  go_quiet (fail)
  go_wp2
  obtain ⟨wq, hwq⟩ : ∃ wq, wq = w.drewN nq := ⟨_, rfl⟩
  have hbq : Below w.heap.size w wq := hwq ▸ drew_below w nq
  rw [← hwq]
  clear hwq
  have HSS : Hid (∀ w', Below w.heap.size w w' → (w'.cell? ⟨gf, o * 4, none⟩ = some (.int .u64 (tg : Int)) ∧ w'.cell? ⟨gf, o * 4 + 2, none⟩ = some (.int .i64 (bf : Int)) ∧ w'.cell? ⟨gf, o * 4 + 3, none⟩ = some v0 ∧ w'.frozen? ⟨gf, o * 4 + 3, none⟩ = false)) :=
    fun w' hb' => ⟨(hb'.cell (p := ⟨gf, o * 4, none⟩) x4).trans q0, (hb'.cell (p := ⟨gf, o * 4 + 2, none⟩) x4).trans q2, (hb'.cell (p := ⟨gf, o * 4 + 3, none⟩) x4).trans q3, (hb'.frozen (p := ⟨gf, o * 4 + 3, none⟩) x4).trans q4⟩
  have HS2 : Hid (∀ w', Below w.heap.size w w' → (w'.cell? ⟨gf, o * 4, none⟩ = some (.int .u64 (tg : Int)) ∧ w'.cell? ⟨gf, o * 4 + 2, none⟩ = some (.int .i64 (bf : Int)))) := fun w' h => ⟨(HSS.out w' h).1, (HSS.out w' h).2.1⟩
  have HTAG := Lib.hid htag
  obtain ⟨dl, hdl⟩ : ∃ dl, dl = tot - bf := ⟨_, rfl⟩
  have he1 : (tot : Int) - (bf : Int) = (dl : Int) := by omega
  have he2 : IntKind.i64.wrap ((tot : Int) - (bf : Int)) = (dl : Int) := by rw [he1]; exact IntWalk.i64_in _ (by omega)
  have he3 : IntKind.i64.wrap (dl : Int) = (dl : Int) := IntWalk.i64_in _ (by omega)
  have he4 : IntKind.u64.wrap (dl : Int) = (dl : Int) := IntWalk.u64_in _ (by omega)
  have hdl64 : dl < 18446744073709551616 := by omega
  have HDL := Lib.hid hdl
  have TOK := Lib.hid hb
  have hl1 := Lib.uvarint_length64 htag
  have hl2 := Lib.uvarint_length64 hdl64
  have hp1 : 0 < (uvarint tg).length := Lib.uvarint_pos tg
  clear hdl q0 q2 q3 q4 q5 c2 c3 htag
  go_cut [] from 22 to 40 (fun wx => Headed B w p S made ⟨s.raw, s.fs.set o (f.headed (uvarint tg ++ uvarint dl)), s.op, s.room⟩ vb (.slice (some ⟨gf, 0, none⟩) N cf) (.slice (some ⟨go, 0, none⟩) (K + 1) co) gf o (uvarint tg ++ uvarint dl).length wx)
  case first =>
    have r := HS2.out _ hbq
    go_region_held3 (fun w' => w'.cell? ⟨gf, o * 4, none⟩ = some (.int .u64 (tg : Int)) ∧ w'.cell? ⟨gf, o * 4 + 2, none⟩ = some (.int .i64 (bf : Int)))
      (first | exact hpost _ | exact HS2.out _ hbA5 | exact HS2.out _ hbA4 | exact HS2.out _ hbA3 | exact HS2.out _ hbA2 | exact HS2.out _ hbA1 | exact HS2.out _ hbq | exact r | go_keep)
      (first
      | (go_at_call 36; have tok := TOK.out; refine (put_new tg _ HTAG.out).mono ?_; rintro e w1 ⟨A1, cap1, rfl, hB1, hb1, ha1⟩; have hbA1 : Below w.heap.size w w1 := hbq.trans (Below.mono ⟨hb1.os, hb1.tape, hb1.output, hb1.size, hb1.block⟩ hbq.size); have HB1 := Lib.hid hB1; have HA1 := Lib.hid (show ∀ a, A1 = some a → w.heap.size ≤ a.block ∧ a.block < w1.heap.size from fun a ha => ⟨Nat.le_trans hbq.size (ha1 a ha).1, (ha1 a ha).2⟩); clear TOK tok hb1 hB1 ha1)
      | (go_at_call 11; refine (HLEN.out _ hbA1).mono ?_; rintro e w2 ⟨rfl, m, rfl⟩; have hbA2 : Below w.heap.size w (w1.drewN m) := hbA1.trans ((drew_below w1 m).mono hbA1.size))
      | (go_at_call 36; refine (put_new dl _ hdl64).mono ?_; rintro e w3 ⟨A3, cap3, rfl, hB3, hb3, ha3⟩; have hb13 : Below w1.heap.size w1 w3 := ⟨hb3.os, hb3.tape, hb3.output, hb3.size, hb3.block⟩; have hbA3 : Below w.heap.size w w3 := hbA1.trans (hb13.mono hbA1.size); have HB13 := Lib.hid (HB1.out.below hb13 (Nat.le_refl _)); have HA13 := Lib.hid (show ∀ a, A1 = some a → w.heap.size ≤ a.block ∧ a.block < w3.heap.size from fun a ha => ⟨(HA1.out a ha).1, Nat.lt_of_lt_of_le (HA1.out a ha).2 hb13.size⟩); have HB3 := Lib.hid hB3; have HA3 := Lib.hid (show ∀ a, A3 = some a → w.heap.size ≤ a.block ∧ a.block < w3.heap.size from fun a ha => ⟨Nat.le_trans hbA1.size (ha3 a ha).1, (ha3 a ha).2⟩); have hbA4 : Below w.heap.size w (w3.alloc (.cells #[.slice A1 (uvarint tg).length cap1, .slice A3 (uvarint dl).length cap3] 38)) := hbA3.alloc hbA3.size _; clear hb3 hB3 ha3 HB1 HA1)
      | (go_at_call 37; refine (concat_any _ (pcs_two (S := fun _ => False) (fun _ h => h.elim) _ HB13.out rfl (fun a ha => ⟨fun h => h, (HA13.out a ha).2⟩) HB3.out rfl (fun a ha => ⟨fun h => h, (HA3.out a ha).2⟩)) rfl (by simp only [List.flatten_cons, List.flatten_nil, List.append_nil, List.length_append]; omega) (by simp only [List.flatten_cons, List.flatten_nil, List.append_nil, List.length_append]; omega)).mono ?_; rintro e w4 ⟨A4, cap4, rfl, hB4, hb4, ha4⟩; have hbA5 : Below w.heap.size w w4 := hbA4.trans (hb4.mono hbA4.size); have HB4 := Lib.hid hB4; have HA4 := Lib.hid (show ∀ a, A4 = some a → w.heap.size ≤ a.block ∧ a.block < w4.heap.size from fun a ha => ⟨Nat.le_trans hbA4.size (ha4 a ha).1, (ha4 a ha).2⟩); have r3 := (HSS.out _ hbA5).2.2.1; have r4 := (HSS.out _ hbA5).2.2.2; have hpost : ∀ v, ((w4.setCell ⟨gf, o * 4 + 3, none⟩ v).cell? ⟨gf, o * 4, none⟩ = some (.int .u64 (tg : Int)) ∧ (w4.setCell ⟨gf, o * 4 + 3, none⟩ v).cell? ⟨gf, o * 4 + 2, none⟩ = some (.int .i64 (bf : Int))) := fun v => ⟨(cell_set_off _ gf v (by omega)).trans (HSS.out _ hbA5).1, (cell_set_off _ gf v (by omega)).trans (HSS.out _ hbA5).2.1⟩; clear hB4 hb4 ha4))
    all_goals
      go_wp2_with fail
      go_meet
    case rel =>
      have h1 := HAT.out
      rw [← HN.out, HOPL.out] at h1
      obtain ⟨S', q1, q2, q3⟩ := wr_head h1 hbA5 (gf := gf) (o := o) rfl HV0.out (n := (uvarint tg).length + (uvarint dl).length) (hd := uvarint tg ++ uvarint dl) (by have := HB4.out; simpa using this) (by rw [List.length_append]) HA4.out
      exact ⟨S', _, q1, q2, q3, A4, cap4, by rw [List.length_append]; exact World.cell?_setCell_same' _ _ _ (by rw [r3]; rfl)⟩
  case rest =>
    obtain ⟨S5, ps5, hat5, hs5, ht5, A5, cap5, hc5⟩ := hcut
    obtain ⟨hl, hhl⟩ : ∃ hl, hl = (uvarint tg ++ uvarint dl).length := ⟨_, rfl⟩
    have hl20 : hl ≤ 20 := by rw [hhl, List.length_append]; omega
    have hl0 : 0 < hl := by rw [hhl, List.length_append]; omega
    obtain ⟨rm, hrm⟩ : ∃ rm, rm = s.room := ⟨_, rfl⟩
    have hrml : rm ≤ tot := by have := HTOT.out; omega
    have d4 := obj_cell hat5.obj 4
    have d3 := obj_cell hat5.obj 3
    have f4 := obj_free hat5.obj 4
    dsimp only at d4 d3
    rw [← hrm] at d4 d3
    rw [← hhl] at hc5
    have hwr : IntKind.i64.wrap ((rm : Int) + (hl : Int)) = (rm : Int) + (hl : Int) := IntWalk.i64_in _ (by omega)
    have HAT5 := Lib.hid hat5
    have HS5 := Lib.hid hs5
    have HT5 := Lib.hid ht5
    have HHL := Lib.hid hhl
    have HRM := Lib.hid hrm
    clear hat5 hs5 ht5 hhl hrm
    go_wp2
    go_cut [] from 41 to 52 (fun wx => Headed2 B w p S made ⟨s.raw, s.fs.set o (f.headed (uvarint tg ++ uvarint dl)), s.op, rm + hl⟩ vb (.slice (some ⟨gf, 0, none⟩) N cf) (.slice (some ⟨go, 0, none⟩) (K + 1) co) wx)
    case first =>
      go_region_law (fail)
      all_goals
        go_wp2_with fail
        go_meet
        case rel =>
          have e := room_touch (r := rm + hl) HAT5.out HS5.out HT5.out
          rw [Int.natCast_add] at e
          exact e
    case rest =>
      obtain ⟨S6, ps6, hat6, hs6, ht6⟩ := hcut
      have e3 := obj_cell hat6.obj 3
      have g3 := obj_free hat6.obj 3
      have HEQ : Hid (s.shut1 init o f = ⟨s.raw, s.fs.set o (f.headed (uvarint tg ++ uvarint dl)), init, rm + hl⟩) := by
        show _ = _
        unfold Ws.shut1 Fr.headAt
        rw [← HTG.out, ← HBF.out, ← HTOT.out, ← HDL.out, ← HHL.out, ← HRM.out]
      have HTK : Hid (From B w p S made (s.shut1 init o f) (wc.setCell ⟨p, 3, none⟩ (.slice (some ⟨go, 0, none⟩) K co))) := by
        show From _ _ _ _ _ _ _
        have h2 := hat6
        rw [← HOPL.out] at h2
        obtain ⟨S7, z1, z2, z3⟩ := wr_take h2 HOP.out
        rw [HEQ.out]
        dsimp only at z1
        rw [← HK.out] at z1 z3
        refine ⟨S7, ⟨_, _, _, _, z1⟩, fun k hk => ?_, ht6.trans z3 hs6⟩
        rcases z2 k hk with q | q
        · exact hs6 k q
        · exact .inr (by have := ht6.size; omega)
      clear hat6 hs6 ht6 d3 d4 f4 hc5
      by_cases hK0 : K = 0
      · have hinit : init = [] := List.eq_nil_of_length_eq_zero (by have := HK.out; omega)
        have HSH : Hid (s.shut init o f = (s.shut1 init o f).lay) := by show _ = _; rw [Ws.shut, if_pos hinit]
        obtain ⟨S7, hw7, hs7, ht7⟩ := HTK.out
        have hr1 : (s.shut1 init o f).room = rm + hl := by rw [HEQ.out]
        have hr2 : (s.shut1 init o f).raw.length + rm = tot := by rw [HEQ.out, HTOT.out, HRM.out]
        have hl3 : (s.shut1 init o f).fs.length = N := by rw [HEQ.out, List.length_set, ← HPSL.out, HN.out]
        have HLAY := Lib.hid (lay_any hw7 (HASC.out hinit) (HROOM.out hinit) (by omega) (by intro e; rw [e] at hl3; simp at hl3; omega) (by omega) (by omega))
        have HS7 := Lib.hid hs7
        have HT7 := Lib.hid ht7
        clear hinit hw7 hs7 ht7 hr1 hr2 hl3
        subst hK0
        go_wp2_with (go_at_call 38; refine HLAY.out.mono ?_; rintro e w8 ⟨⟨v, rfl⟩, S8, hw8, hs8, ht8⟩; have HW8 := Lib.hid hw8; have HS8 := Lib.hid hs8; have HT8 := Lib.hid ht8; clear hw8 hs8 ht8)
        go_ret
        rw [HSH.out]
        refine ⟨rfl, S8, HW8.out, fun k hk => ?_, HT7.out.trans HT8.out HS7.out⟩
        rcases HS8.out k hk with q | q
        · exact HS7.out k q
        · exact .inr (by have := HT7.out.size; omega)
      · have HSH : Hid (s.shut init o f = s.shut1 init o f) := by
          show _ = _
          rw [Ws.shut, if_neg (fun e => hK0 (by rw [HK.out, e]; rfl))]
        have g : ((K : Int) == 0) = false := by simp; omega
        have hK1 : ¬ (K : Int) = 0 := by omega
        go_wp2
        go_ret
        rw [HSH.out]
        obtain ⟨S7, hw7, hs7, ht7⟩ := HTK.out
        exact ⟨rfl, S7, hw7, hs7, ht7⟩
end Go.Proofs.Ytnhaeapkncnimaa
