/- Several texts in one: RemB, RrC, RuA. What each proves, and its conditions, stands at its own head. -/
import Derived.Test.YtloheacncefkgaaGreatDoorPkEU35
import Derived.Test.YtloheacncefkgaaGreatDoorPkEU5
import Derived.IntWalk
import Derived.Test.YtloheacncefkgaaGreatDoorPkEU9
import Derived.Test.YtloheacncefkgaaGreatDoorPkEU0
import Derived.Test.YtloheacncefkgaaGreatDoorPkEU32
import Derived.Deep.RegionHeld3
import Derived.Test.YtloheacncefkgaaGreatDoorPkEU29
import Derived.Test.YtloheacncefkgaaGreatDoorPkEU4
import Derived.Test.YtloheacncefkgaaGreatDoorPkEU22
import Derived.Test.YtloheacncefkgaaGreatDoorPkEU20
import Derived.BigQuiet
import Derived.Deep.QuietTactic
/- The document's bytes of a field. Conditions: those that each theorem names. -/
namespace Go.Proofs.YtloheacncefkgaaGreatDoor
open Go.RowKit
open Go.Lib (uvarint)
set_option linter.unusedVariables false
set_option maxRecDepth 100000

theorem rtag_any (num wire : Int) (w : World) (hr : rightB num wire = true) :
 Calls Tryz.prog 147 #[.int .i64 num, .int .i64 wire] w (GivesOwn w (uvarint (tagN num wire))) := by
 have HO := Lib.hid (rof_any num wire w hr)
 have hlt := tagN_lt num wire
 generalize tagN num wire = tg at *
 have HLT := Lib.hid hlt
 clear hr hlt
 go_enter Tryz.func147, Tryz.ntmps147
 go_wp2_with (first
  | (go_at_call 163; refine HO.out.mono ?_; rintro e w' ⟨rfl, rfl⟩)
  | (go_at_call 44; refine (rput_own _ _ (by have := HLT.out; omega)).mono ?_; rintro e w1 ⟨v, n, rfl, ho, hb⟩; have HO1 := Lib.hid ho; have HB1 := Lib.hid hb; clear ho hb))
 go_ret
 exact ⟨_, _, rfl, HO1.out, HB1.out⟩
theorem rbytes_0 (num : Int) (n : Nat) (t : ByteArray) (w : World) (hr : rightB num 0 = true) (hn : n < 18446744073709551616) :
 Calls Tryz.prog 126 #[.int .i64 num, .int .i64 0, .int .u64 (n : Int), .string t] w (GivesOwn w (uvarint (tagN num 0) ++ uvarint n)) := by
 obtain ⟨i0, hi, hz0, hz1, hz2⟩ := info_parts info_u8
 have HT := Lib.hid (rtag_any num 0 w hr)
 have hl1 : (uvarint (tagN num 0)).length ≤ 10 := Lib.uvarint_length64 (by have := tagN_lt num 0; omega)
 have hl2 : (uvarint n).length ≤ 10 := Lib.uvarint_length64 hn
 have HP := Lib.hid (fun w => rput_any n w hn)
 generalize uvarint (tagN num 0) = tb at *
 generalize uvarint n = vb at *
 clear hr
 go_enter Tryz.func126, Tryz.ntmps126
 go_wp2_with (first
  | (go_at_call 147; refine HT.out.mono ?_; rintro e w1 ⟨v1, n1, rfl, ho1, hb1⟩; obtain ⟨hn1, _⟩ := Bs.own ho1; subst hn1; have HO1 := Lib.hid ho1; have HB1 := Lib.hid hb1; clear ho1 hb1)
  | (go_at_call 44; refine (HP.out _).mono ?_; rintro e w2 ⟨A2, cap2, rfl, hB2, hb2⟩; have HO2 := Lib.hid (own_below HO1.out hb2); have HB2 := Lib.hid (HB1.out.trans (hb2.mono HB1.out.size)); have HBS := Lib.hid hB2; clear hB2 hb2)
  | (at_builtin; refine wpList_append_bs2 rfl _ _ _ rfl w.heap.size 5 i0 Tryz.underlying34 hi hz0 hz1 hz2 _ _ tb rfl HO2.out _ _ _ vb rfl rfl HBS.out (by omega) HB2.out.size ?_; intro v3 w3 ho3 hg3 hm3; have HO3 := Lib.hid ho3; have HB3 := Lib.hid (HB2.out.grown hg3 HB2.out.size (fun k e => (HO2.out.lt k e).1)); clear ho3 hg3 hm3))
 go_ret
 exact ⟨_, _, rfl, HO3.out, HB3.out⟩
theorem rbytes_1 (num : Int) (n : Nat) (t : ByteArray) (w : World) (hr : rightB num 1 = true) (hn : n < 18446744073709551616) :
 Calls Tryz.prog 126 #[.int .i64 num, .int .i64 1, .int .u64 (n : Int), .string t] w (GivesOwn w (uvarint (tagN num 1) ++ le 8 n)) := by
 obtain ⟨i0, hi, hz0, hz1, hz2⟩ := info_parts info_u8
 have HT := Lib.hid (rtag_any num 1 w hr)
 have hl1 : (uvarint (tagN num 1)).length ≤ 10 := Lib.uvarint_length64 (by have := tagN_lt num 1; omega)
 have hl2 : (le 8 n).length ≤ 10 := by rw [le_length]; decide
 have HP := Lib.hid (fun w => fput_any n 8 w hn (by decide))
 generalize uvarint (tagN num 1) = tb at *
 generalize le 8 n = vb at *
 clear hr
 go_enter Tryz.func126, Tryz.ntmps126
 go_wp2_with (first
  | (go_at_call 147; refine HT.out.mono ?_; rintro e w1 ⟨v1, n1, rfl, ho1, hb1⟩; obtain ⟨hn1, _⟩ := Bs.own ho1; subst hn1; have HO1 := Lib.hid ho1; have HB1 := Lib.hid hb1; clear ho1 hb1)
  | (go_at_call 43; refine (HP.out _).mono ?_; rintro e w2 ⟨A2, cap2, rfl, hB2, hb2⟩; have HO2 := Lib.hid (own_below HO1.out hb2); have HB2 := Lib.hid (HB1.out.trans (hb2.mono HB1.out.size)); have HBS := Lib.hid hB2; clear hB2 hb2)
  | (at_builtin; refine wpList_append_bs2 rfl _ _ _ rfl w.heap.size 5 i0 Tryz.underlying34 hi hz0 hz1 hz2 _ _ tb rfl HO2.out _ _ _ vb rfl rfl HBS.out (by omega) HB2.out.size ?_; intro v3 w3 ho3 hg3 hm3; have HO3 := Lib.hid ho3; have HB3 := Lib.hid (HB2.out.grown hg3 HB2.out.size (fun k e => (HO2.out.lt k e).1)); clear ho3 hg3 hm3))
 go_ret
 exact ⟨_, _, rfl, HO3.out, HB3.out⟩
theorem rbytes_5 (num : Int) (n : Nat) (t : ByteArray) (w : World) (hr : rightB num 5 = true) (hn : n < 18446744073709551616) :
 Calls Tryz.prog 126 #[.int .i64 num, .int .i64 5, .int .u64 (n : Int), .string t] w (GivesOwn w (uvarint (tagN num 5) ++ le 4 n)) := by
 obtain ⟨i0, hi, hz0, hz1, hz2⟩ := info_parts info_u8
 have HT := Lib.hid (rtag_any num 5 w hr)
 have hl1 : (uvarint (tagN num 5)).length ≤ 10 := Lib.uvarint_length64 (by have := tagN_lt num 5; omega)
 have hl2 : (le 4 n).length ≤ 10 := by rw [le_length]; decide
 have HP := Lib.hid (fun w => fput_any n 4 w hn (by decide))
 generalize uvarint (tagN num 5) = tb at *
 generalize le 4 n = vb at *
 clear hr
 go_enter Tryz.func126, Tryz.ntmps126
 go_wp2_with (first
  | (go_at_call 147; refine HT.out.mono ?_; rintro e w1 ⟨v1, n1, rfl, ho1, hb1⟩; obtain ⟨hn1, _⟩ := Bs.own ho1; subst hn1; have HO1 := Lib.hid ho1; have HB1 := Lib.hid hb1; clear ho1 hb1)
  | (go_at_call 43; refine (HP.out _).mono ?_; rintro e w2 ⟨A2, cap2, rfl, hB2, hb2⟩; have HO2 := Lib.hid (own_below HO1.out hb2); have HB2 := Lib.hid (HB1.out.trans (hb2.mono HB1.out.size)); have HBS := Lib.hid hB2; clear hB2 hb2)
  | (at_builtin; refine wpList_append_bs2 rfl _ _ _ rfl w.heap.size 5 i0 Tryz.underlying34 hi hz0 hz1 hz2 _ _ tb rfl HO2.out _ _ _ vb rfl rfl HBS.out (by omega) HB2.out.size ?_; intro v3 w3 ho3 hg3 hm3; have HO3 := Lib.hid ho3; have HB3 := Lib.hid (HB2.out.grown hg3 HB2.out.size (fun k e => (HO2.out.lt k e).1)); clear ho3 hg3 hm3))
 go_ret
 exact ⟨_, _, rfl, HO3.out, HB3.out⟩
theorem rbytes_2 (num : Int) (n : Int) (t : List UInt8) (w : World) (hr : rightB num 2 = true) (ht : t.length ≤ 140737488351232) :
 Calls Tryz.prog 126 #[.int .i64 num, .int .i64 2, .int .u64 n, .string (strOf t)] w (GivesOwn w (uvarint (tagN num 2) ++ (uvarint t.length ++ t))) := by
 obtain ⟨i0, hi, hz0, hz1, hz2⟩ := info_parts info_u8
 have HT := Lib.hid (rtag_any num 2 w hr)
 have hl1 : (uvarint (tagN num 2)).length ≤ 10 := Lib.uvarint_length64 (by have := tagN_lt num 2; omega)
 have hn64 : t.length < 18446744073709551616 := by omega
 have hl2 : (uvarint t.length).length ≤ 10 := Lib.uvarint_length64 hn64
 obtain ⟨N, hN⟩ : ∃ N, N = t.length := ⟨_, rfl⟩
 have hsz : (strOf t).size = N := by rw [hN]; simp [strOf, ByteArray.size]
 rw [← hN] at ht hn64 hl2 ⊢
 have hwr : IntKind.u64.wrap (N : Int) = (N : Int) := IntWalk.u64_in _ (by omega)
 have HP := Lib.hid (fun w => rput_any N w hn64)
 have HN := Lib.hid hN
 have HSZ := Lib.hid hsz
 generalize uvarint (tagN num 2) = tb at *
 generalize uvarint N = vb at *
 clear hr hN
 go_enter Tryz.func126, Tryz.ntmps126
 go_wp2_with (first
  | (go_at_call 147; refine HT.out.mono ?_; rintro e w1 ⟨v1, n1, rfl, ho1, hb1⟩; obtain ⟨hn1, _⟩ := Bs.own ho1; subst hn1; have HO1 := Lib.hid ho1; have HB1 := Lib.hid hb1; clear ho1 hb1)
  | (go_at_call 44; refine (HP.out _).mono ?_; rintro e w2 ⟨A2, cap2, rfl, hB2, hb2⟩; have HO2 := Lib.hid (own_below HO1.out hb2); have HB2 := Lib.hid (HB1.out.trans (hb2.mono HB1.out.size)); have HBS := Lib.hid hB2; clear hB2 hb2)
  | (at_builtin; refine wpList_append_bs2 rfl _ _ 34 rfl w.heap.size 5 i0 Tryz.underlying34 hi hz0 hz1 hz2 _ _ tb rfl HO2.out _ _ _ vb rfl rfl HBS.out (by omega) HB2.out.size ?_; intro v3 w3 ho3 hg3 hm3; have HO3 := Lib.hid ho3; have HB3 := Lib.hid (HB2.out.grown hg3 HB2.out.size (fun k e => (HO2.out.lt k e).1)); clear ho3 hg3 hm3 HBS)
  | (at_builtin; refine Lib.wpList_append_own_string _ rfl _ _ 34 9 rfl w.heap.size 5 i0 Tryz.underlying34 Tryz.underlying9 hi hz0 hz1 hz2 _ _ (cellsOf (tb ++ vb)) rfl HO3.out (strOf t) rfl (by rw [HSZ.out]; unfold maxLen; omega) (by rw [HSZ.out]; omega) HB3.out.size ?_; intro v4 w4 ho4 hg4 hm4; have HO4 := Lib.hid ho4; have HB4 := Lib.hid (HB3.out.grown hg4 HB3.out.size (fun k e => (HO3.out.lt k e).1)); clear ho4 hg4 hm4))
 go_ret
 have q := HO4.out
 rw [strCells_strOf, ← cellsOf_append, List.append_assoc] at q
 exact ⟨_, _, rfl, q, HB4.out⟩
end Go.Proofs.YtloheacncefkgaaGreatDoor

/- The document's bytes of right fields. Conditions: those that each theorem names. -/
namespace Go.Proofs.YtloheacncefkgaaGreatDoor
open Go.RowKit
open Go.Lib (uvarint)
set_option linter.unusedVariables false
set_option maxRecDepth 100000

theorem okR_right {x : Rw} (h : okR x = true) : rightB x.num x.wire = true := by
 unfold okR at h
 exact (Bool.and_eq_true_iff.mp h).1
theorem rbytes_raw (x : Rw) (w : World) (h : okR x = true) (hn : x.n < 18446744073709551616) (hs : x.s.length ≤ 140737488351232) :
 Calls Tryz.prog 126 #[.int .i64 x.num, .int .i64 x.wire, .int .u64 (x.n : Int), .string (strOf x.s)] w (GivesOwn w (bytesR x)) := by
 have hr := okR_right h
 obtain ⟨num, wire, n, s⟩ := x
 obtain ⟨_, hw⟩ := (rightB_iff _ _).mp hr
 dsimp only at *
 rcases hw with rfl | rfl | rfl | rfl
 ·exact rbytes_0 num n _ w hr hn
 ·exact rbytes_1 num n _ w hr hn
 ·exact rbytes_2 num (n : Int) s w hr hs
 ·exact rbytes_5 num n _ w hr hn
set_option maxHeartbeats 1000000 in
theorem rput_long (w : World) {A : Option Addr} {cap n : Nat} {l : List Rw} (h : Raws w A cap l) (hn : n = l.length) (hok : ∀ x ∈ l, okR x = true) (hb : ∀ x ∈ l, x.n < 18446744073709551616 ∧ x.s.length ≤ 140737488351232) (hl : (putR l).length ≤ 140737488351232) :
 Calls Tryz.prog 87 #[.slice A n cap] w (GivesOwn w (putR l)) := by
 obtain ⟨i0, hi, hz0, hz1, hz2⟩ := info_parts info_u8
 have hle := h.le
 have hmx := h.max
 rw [← hn] at hle
 have H := Lib.hid h
 have HN := Lib.hid hn
 have HOK := Lib.hid hok
 have HB := Lib.hid hb
 have HL := Lib.hid hl
 have hown0 : (w.alloc (.cells #[] 5)).ownsRow w.heap.size 5 1 (.slice (some ⟨w.heap.size, 0, none⟩) 0 0) 0 (cellsOf (putR (l.take 0))) := ⟨rfl, .inr ⟨w.heap.size, 0, _, rfl, Nat.le_refl _, heap_alloc_new w _, Nat.le_refl _, by decide, rfl, rfl⟩⟩
 have HO := Lib.hid hown0
 clear h hn hok hb hl hown0
 go_enter Tryz.func87, Tryz.ntmps87
 go_wp2
 go_loopw [3, 4] (fun v x wr => ∃ (k m : Nat) (vo : Value), k ≤ n ∧ x = .int .i64 (k : Int) ∧ v = vo ∧ wr.ownsRow w.heap.size 5 1 vo m (cellsOf (putR (l.take k))) ∧ Below w.heap.size w wr) (fun _ x _ => n - (intOf x).toNat)
 case atStart => exact ⟨0, 0, _, Nat.zero_le _, rfl, rfl, HO.out, (Below.refl _ _).alloc (Nat.le_refl _) _⟩
 case round =>
  obtain ⟨k, m, vo, hk, rfl, rfl, hown, hbel⟩ := hrel
  have HBE := Lib.hid hbel
  by_cases hlt : k < n
  ·have g1 : decide ((k : Int) < (n : Int)) = true := decide_eq_true (by omega)
   obtain ⟨x, hx⟩ : ∃ x, l[k]? = some x := ⟨_, List.getElem?_eq_getElem (by have := HN.out; omega)⟩
   obtain ⟨g, off, rfl, c0, c1, c2, c3⟩ := H.out.at_ k x hx
   have hxm := List.mem_of_getElem? hx
   have hbl : (putR (l.take k)).length + (bytesR x).length ≤ 140737488351232 := by have h1 := putR_take hx; have h2 := putR_append (l.take (k + 1)) (l.drop (k + 1)); rw [List.take_append_drop] at h2; have := HL.out; rw [h2, h1, List.length_append, List.length_append] at this; omega
   have HBY := Lib.hid (fun w => rbytes_raw x w (HOK.out x hxm) (HB.out x hxm).1 (HB.out x hxm).2)
   obtain ⟨str, hstr⟩ : ∃ str, str = strOf x.s := ⟨_, rfl⟩
   rw [← hstr] at c3 HBY
   obtain ⟨hm, Av, capv, hv, hBs⟩ := Bs.own hown
   subst hv
   have HOWN := Lib.hid hown
   have HPT := Lib.hid (putR_take hx)
   obtain ⟨pre, hpre⟩ : ∃ pre, pre = putR (l.take k) := ⟨_, rfl⟩
   obtain ⟨fb, hfb⟩ : ∃ fb, fb = bytesR x := ⟨_, rfl⟩
   rw [← hpre] at HOWN HPT hbl ⊢
   rw [← hfb] at HBY HPT hbl
   have HBL := Lib.hid hbl
   clear hown hbel hx hxm hbl hm hBs hpre hfb hstr
   have HCC : Hid (∀ w2, Below w.heap.size w w2 → w2.cell? ⟨g, off + k * 4, none⟩ = some (.int .i64 x.num) ∧ w2.cell? ⟨g, off + k * 4 + 1, none⟩ = some (.int .i64 x.wire) ∧ w2.cell? ⟨g, off + k * 4 + 2, none⟩ = some (.int .u64 (x.n : Int)) ∧ w2.cell? ⟨g, off + k * 4 + 3, none⟩ = some (.string str)) :=
    Lib.hid (fun w2 hb => ⟨(hb.cell (p := ⟨g, off + k * 4, none⟩) (lt_of_cell c0)).trans c0, (hb.cell (p := ⟨g, off + k * 4 + 1, none⟩) (lt_of_cell c1)).trans c1, (hb.cell (p := ⟨g, off + k * 4 + 2, none⟩) (lt_of_cell c2)).trans c2, (hb.cell (p := ⟨g, off + k * 4 + 3, none⟩) (lt_of_cell c3)).trans c3⟩)
   clear c0 c1 c2 c3
   obtain ⟨c0, c1, c2, c3⟩ := HCC.out wr HBE.out
   go_wp2
   go_region_held3 (fun w' => w'.cell? ⟨g, off + k * 4, none⟩ = some (.int .i64 x.num) ∧ w'.cell? ⟨g, off + k * 4 + 1, none⟩ = some (.int .i64 x.wire) ∧ w'.cell? ⟨g, off + k * 4 + 2, none⟩ = some (.int .u64 (x.n : Int)) ∧ w'.cell? ⟨g, off + k * 4 + 3, none⟩ = some (.string str))
    (first | exact HC3.out | exact HC2.out | exact ⟨c0, c1, c2, c3⟩)
    (first
     | (go_at_call 126
        refine (HBY.out _).mono ?_
        rintro e w2 ⟨v2, n2, rfl, ho2, hb2⟩
        obtain ⟨hn2, A2, cap2, hv2, hBs2⟩ := Bs.own ho2
        subst hv2
        have HB2 := Lib.hid hb2
        have HBS2 := Lib.hid hBs2
        have hbw : Below wr.heap.size wr w2 := (Below.refl _ wr).drew.trans hb2
        have HBE2 := Lib.hid (HBE.out.trans (hbw.mono HBE.out.size))
        have HC2 := Lib.hid (HCC.out _ HBE2.out)
        have hown2 := own_below HOWN.out hbw
        have HOWN2 := Lib.hid hown2
        clear ho2 hb2 hBs2 hown2 hn2 hbw)
     | (refine step_append_bs rfl _ _ (by rfl) (by rfl) HOWN2.out (by rfl) HBS2.out rfl (by have := HBL.out; omega) HBE2.out.size ?_
        intro v3 w3 ho3 hg3
        have HO3 := Lib.hid ho3
        have HBE3 := Lib.hid (HBE2.out.grown hg3 HBE2.out.size (fun j hj => (HOWN2.out.lt j hj).1))
        have HC3 := Lib.hid (HCC.out _ HBE3.out)
        have HG3 := Lib.hid hg3
        clear ho3 hg3))
   go_wp2
   go_roundw
   case rel => exact ⟨k + 1, _, _, by omega, by go_num, rfl, by rw [HPT.out]; exact HO3.out, HBE3.out⟩
   case measure => simp [intOf]; omega
  ·have g1 : decide ((k : Int) < (n : Int)) = false := decide_eq_false (by omega)
   have e : l.take k = l := List.take_of_length_le (by have := HN.out; omega)
   rw [e] at hown
   have HOW := Lib.hid hown
   clear hown hbel e
   go_wp2
   go_ret
   exact ⟨_, m, rfl, HOW.out, HBE.out⟩
end Go.Proofs.YtloheacncefkgaaGreatDoor

/- The document's layer 21: Pack. Conditions: those that each theorem names. -/
namespace Go.Proofs.YtloheacncefkgaaGreatDoor
open Go.RowKit
set_option linter.unusedVariables false
set_option maxRecDepth 100000

theorem flatm_take {α β : Type} {g : α → List β} {l : List α} {k : Nat} {x : α} (h : l[k]? = some x) : (l.take (k + 1)).flatMap g = (l.take k).flatMap g ++ g x := by
 rw [List.take_add_one, h, List.flatMap_append]
 show _ ++ (g x ++ []) = _
 rw [List.append_nil]
theorem wire_ways (ty : Int) (n : Nat) : (wireT ty = 1 ∧ wireB ty n = le 8 (toT ty n)) ∨ (wireT ty = 5 ∧ wireB ty n = le 4 (toT ty n)) ∨ ((wireT ty == 1) = false ∧ (wireT ty == 5) = false ∧ wireB ty n = Lib.uvarint (toT ty n)) := by
 unfold wireB
 by_cases h1 : wireT ty = 1
 ·rw [if_pos h1]; exact .inl ⟨h1, rfl⟩
 ·rw [if_neg h1]
  by_cases h5 : wireT ty = 5
  ·rw [if_pos h5]; exact .inr (.inl ⟨h5, rfl⟩)
  ·rw [if_neg h5]; exact .inr (.inr ⟨beq_false_of_ne h1, beq_false_of_ne h5, rfl⟩)
set_option maxHeartbeats 2000000 in
theorem rupack_any (f : Fd) (w : World) {A : Option Addr} {cap n : Nat} {l : List Nat} (h : Sl w A cap (u64s l)) (hn : n = l.length) (hl : l.length ≤ 1000000000000) (hb : ∀ x ∈ l, x < 18446744073709551616) :
 Calls Tryz.prog 16 #[fdV f, .slice A n cap] w fun e w' => e = .returned (.string (strOf (packB f l))) ∧ Below w.heap.size w w' := by
 obtain ⟨i0, hi, hz0, hz1, hz2⟩ := info_parts info_u8
 have q1 := h.le
 have q2 := h.max
 unfold maxLen at q2
 rw [u64s_length, ← hn] at q1
 have HN := Lib.hid hn
 have HM := Lib.hid (fun u => rsnumber_any f.ty u)
 have HWI := Lib.hid (fun u => rswire_any f.ty u)
 have HTO := Lib.hid (fun x u (hx : x < 18446744073709551616) => rnto_any f.ty x u hx)
 have HPK : Hid (packB f l = if numberT f.ty = true then l.flatMap (wireB f.ty) else []) := Lib.hid rfl
 have HS := Lib.hid h
 have HL := Lib.hid hl
 have HBN := Lib.hid hb
 clear h hn hl hb
 obtain ⟨name, num, ty, ref, rep, loose, one⟩ := f
 unfold fdV
 dsimp only at HM HWI HTO HPK ⊢
 obtain ⟨sn, hsn⟩ : ∃ sn, sn = strOf name := ⟨_, rfl⟩
 obtain ⟨sr, hsr⟩ : ∃ sr, sr = strOf ref := ⟨_, rfl⟩
 obtain ⟨so, hso⟩ : ∃ so, so = strOf one := ⟨_, rfl⟩
 rw [← hsn, ← hsr, ← hso]
 obtain ⟨pk, hpk⟩ : ∃ pk, pk = packB ⟨name, num, ty, ref, rep, loose, one⟩ l := ⟨_, rfl⟩
 rw [← hpk] at HPK ⊢
 clear hsn hsr hso hpk
 obtain ⟨bx, hbx⟩ : ∃ bx, bx = Obj.cells #[.string sn, .int .i64 num, .int .i64 ty, .string sr, .bool rep, .bool loose, .string so] 44 (0, 0) := ⟨_, rfl⟩
 obtain ⟨w1, hw1⟩ : ∃ w1, w1 = w.alloc bx := ⟨_, rfl⟩
 have hsz1 : w1.heap.size = w.heap.size + 1 := by rw [hw1, World.size_alloc]
 have HB1 : Hid (Below w.heap.size w w1) := Lib.hid (by rw [hw1]; exact (Below.refl _ w).alloc (Nat.le_refl _) _)
 have hc1 : w1.heap[w.heap.size]? = some bx := by rw [hw1, hbx]; exact heap_alloc_new w _
 rw [hbx] at hc1 hw1
 have HTY : Hid (∀ u, Below (w.heap.size + 1) w1 u → u.cell? ⟨w.heap.size, 2, none⟩ = some (.int .i64 ty)) := Lib.hid (fun u hb => cell_under (by rw [hsz1]; exact hb) (obj_cell hc1 2))
 have h0 := World.ownsRow_made (base := w1.heap.size) (e := 5) (size := 1) w1 #[] 0 (Nat.le_refl _) (by decide) rfl
 have h1 : Below w1.heap.size w1 (w1.alloc (.cells #[] 5)) := (Below.refl _ w1).alloc (Nat.le_refl _) _
 have HO : Hid (((w.alloc (.cells #[.string sn, .int .i64 num, .int .i64 ty, .string sr, .bool rep, .bool loose, .string so] 44)).alloc (.cells #[] 5)).ownsRow (w.heap.size + 1) 5 1 (.slice (some ⟨w.heap.size + 1, 0, none⟩) 0 0) 0 (cellsOf ((l.take 0).flatMap (wireB ty)))) := Lib.hid (by rw [← hw1, ← hsz1]; exact h0)
 have HST : Hid (Below (w.heap.size + 1) w1 ((w.alloc (.cells #[.string sn, .int .i64 num, .int .i64 ty, .string sr, .bool rep, .bool loose, .string so] 44)).alloc (.cells #[] 5))) := Lib.hid (by rw [← hw1, ← hsz1]; exact h1)
 have HT : Hid (∀ u, Below (w.heap.size + 1) w1 u → Below w.heap.size w u) := Lib.hid (fun u hb => HB1.out.trans (hb.mono (by omega)))
 have HS1 : Hid (w1.heap.size = w.heap.size + 1) := Lib.hid hsz1
 clear hc1 hsz1 h0 h1 hw1 hbx HB1
 go_enter Tryz.func16, Tryz.ntmps16
 go_wp2
 cases hnum : numberT ty with
 | false =>
   rw [hnum, if_neg (by decide)] at HPK
   rw [hnum] at HM
   go_loopw [5, 6] (fun v x wr => ∃ (m : Nat) (vo : Value), x = .int .i64 (0 : Int) ∧ v = vo ∧ wr.ownsRow (w.heap.size + 1) 5 1 vo m (cellsOf []) ∧ Below (w.heap.size + 1) w1 wr) (fun _ x _ => 0)
   case atStart => exact ⟨0, _, rfl, rfl, HO.out, HST.out⟩
   case round =>
    obtain ⟨m, vo, rfl, rfl, hown, hbel⟩ := hrel
    have HBE := Lib.hid (HT.out _ hbel)
    have r0 := HTY.out wr hbel
    obtain ⟨hm, Av, capv, hv, hBs⟩ := Bs.own hown
    subst hv
    have gs := run_string_bytes (P := Tryz.prog) hBs Tryz.underlying34 Tryz.underlying5 Tryz.underlying9
    rw [show ([] : List UInt8).length = 0 from rfl] at gs
    by_cases hlt : 0 < n
    ·have g1 : decide ((0 : Int) < (n : Int)) = true := decide_eq_true (by omega)
     go_wp2_with (go_at_call 40; refine (HM.out _).mono ?_; rintro e w2 ⟨rfl, rfl⟩)
     go_ret
     exact ⟨by rw [HPK.out]; rfl, HBE.out⟩
    ·have g1 : decide ((0 : Int) < (n : Int)) = false := decide_eq_false (by omega)
     go_wp2
     go_ret
     exact ⟨by rw [HPK.out]; rfl, HBE.out⟩
 | true =>
   rw [hnum, if_pos rfl] at HPK
   rw [hnum] at HM
   go_loopw [5, 6] (fun v x wr => ∃ (k m : Nat) (vo : Value), k ≤ n ∧ x = .int .i64 (k : Int) ∧ v = vo ∧ wr.ownsRow (w.heap.size + 1) 5 1 vo m (cellsOf ((l.take k).flatMap (wireB ty))) ∧ Below (w.heap.size + 1) w1 wr) (fun _ x _ => n - (intOf x).toNat)
   case atStart => exact ⟨0, 0, _, Nat.zero_le _, rfl, rfl, HO.out, HST.out⟩
   case round =>
    obtain ⟨k, m, vo, hk, rfl, rfl, hown, hbel⟩ := hrel
    have HBE := Lib.hid hbel
    have r0 := HTY.out wr hbel
    by_cases hlt : k < n
    ·have g1 : decide ((k : Int) < (n : Int)) = true := decide_eq_true (by omega)
     obtain ⟨x, hx⟩ : ∃ x, l[k]? = some x := ⟨_, List.getElem?_eq_getElem (by have := HN.out; omega)⟩
     have hx64 := HBN.out x (List.mem_of_getElem? hx)
     obtain ⟨g, off, rfl, c0⟩ := HS.out.at_ k (.int .u64 (x : Int)) (by rw [u64s, List.getElem?_map, hx]; rfl)
     have HC0 := Lib.hid (fun (u : World) (hb : Below w.heap.size w u) => cell_under hb c0)
     have c1 := HC0.out wr (HT.out _ hbel)
     have HTX := Lib.hid (fun u => (HTO.out x u hx64).mono fun _ _ h => And.intro h.1 h.2.symm)
     have hto := to_lt ty x hx64
     have hlen := pack_len (ty := ty) (l := l.take k) (fun y hy => HBN.out y (List.mem_of_mem_take hy))
     have hlk : (l.take k).length ≤ 1000000000000 := by rw [List.length_take]; have := HL.out; omega
     have hwl := wireB_len (ty := ty) hx64
     have HFT := Lib.hid (flatm_take (g := wireB ty) hx)
     obtain ⟨u, hu⟩ : ∃ u, u = toT ty x := ⟨_, rfl⟩
     obtain ⟨pre, hpre⟩ : ∃ pre, pre = (l.take k).flatMap (wireB ty) := ⟨_, rfl⟩
     rw [← hpre] at hown HFT hlen
     obtain ⟨hm, Av, capv, hv, hBs⟩ := Bs.own hown
     subst hv
     have HLE : Hid (pre.length + (wireB ty x).length ≤ 140737488355328) := Lib.hid (by omega)
     have hways := wire_ways ty x
     rw [← hu] at HTX hto hways
     obtain ⟨fb, hfb⟩ : ∃ fb, fb = wireB ty x := ⟨_, rfl⟩
     rw [← hfb] at HFT HLE hways
     have HOWN := Lib.hid hown
     clear hu hx hx64 hown hbel hlen hlk hwl hBs c0 hpre hfb hm
     rcases hways with ⟨hw, he⟩ | ⟨hw, he⟩ | ⟨hw1, hw5, he⟩
     ·rw [hw] at HWI
      have HP := Lib.hid (fun v => fput_any u 8 v hto (by decide))
      rw [← he] at HP
      clear he
      go_wp2_with (go_at_call 40; refine (HM.out _).mono ?_; rintro e w2 ⟨rfl, rfl⟩)
      go_quiet (first | (go_at_call 41; refine Calls.quiet_of_same (HTX.out _)))
      go_wp2_with (first
       | (go_at_call 42; refine (HWI.out _).mono ?_; rintro e w2 ⟨rfl, rfl⟩)
       | (go_at_call 43; refine (HP.out _).mono ?_; rintro e w2 ⟨A2, cap2, rfl, hB2, hb2⟩; have hbw : Below (w.heap.size + 1) w1 w2 := HBE.out.trans (((drewN_under wr _).trans (hb2.mono (drewN_under wr _).size)).mono (by have := HBE.out.size; have := HS1.out; omega)); have HB2 := Lib.hid hbw; have HO2 := Lib.hid (own_below (own_below HOWN.out (drewN_under wr _)) hb2); have HBS := Lib.hid hB2; clear hB2 hb2 hbw)
       | (at_builtin; refine wpList_append_bs2 rfl _ _ 34 rfl (w.heap.size + 1) 5 i0 Tryz.underlying34 hi hz0 hz1 hz2 _ _ pre rfl HO2.out _ _ _ fb rfl rfl HBS.out HLE.out (by have := HB2.out.size; have := HS1.out; omega) ?_; intro v3 w3 ho3 hg3 hm3; have HO3 := Lib.hid ho3; have HB3 := Lib.hid (HB2.out.grown hg3 (by have := HB2.out.size; have := HS1.out; omega) (fun j hj => (HO2.out.lt j hj).1)); clear ho3 hg3 hm3))
      go_roundw
      case rel => exact ⟨k + 1, _, _, by omega, by go_num, rfl, by rw [HFT.out]; exact HO3.out, HB3.out⟩
      case measure => simp [intOf]; omega
     ·rw [hw] at HWI
      have HP := Lib.hid (fun v => fput_any u 4 v hto (by decide))
      rw [← he] at HP
      clear he
      go_wp2_with (go_at_call 40; refine (HM.out _).mono ?_; rintro e w2 ⟨rfl, rfl⟩)
      go_quiet (first | (go_at_call 41; refine Calls.quiet_of_same (HTX.out _)))
      go_wp2_with (first
       | (go_at_call 42; refine (HWI.out _).mono ?_; rintro e w2 ⟨rfl, rfl⟩)
       | (go_at_call 43; refine (HP.out _).mono ?_; rintro e w2 ⟨A2, cap2, rfl, hB2, hb2⟩; have hbw : Below (w.heap.size + 1) w1 w2 := HBE.out.trans (((drewN_under wr _).trans (hb2.mono (drewN_under wr _).size)).mono (by have := HBE.out.size; have := HS1.out; omega)); have HB2 := Lib.hid hbw; have HO2 := Lib.hid (own_below (own_below HOWN.out (drewN_under wr _)) hb2); have HBS := Lib.hid hB2; clear hB2 hb2 hbw)
       | (at_builtin; refine wpList_append_bs2 rfl _ _ 34 rfl (w.heap.size + 1) 5 i0 Tryz.underlying34 hi hz0 hz1 hz2 _ _ pre rfl HO2.out _ _ _ fb rfl rfl HBS.out HLE.out (by have := HB2.out.size; have := HS1.out; omega) ?_; intro v3 w3 ho3 hg3 hm3; have HO3 := Lib.hid ho3; have HB3 := Lib.hid (HB2.out.grown hg3 (by have := HB2.out.size; have := HS1.out; omega) (fun j hj => (HO2.out.lt j hj).1)); clear ho3 hg3 hm3))
      go_roundw
      case rel => exact ⟨k + 1, _, _, by omega, by go_num, rfl, by rw [HFT.out]; exact HO3.out, HB3.out⟩
      case measure => simp [intOf]; omega
     ·have HP := Lib.hid (fun v => rput_any u v hto)
      rw [← he] at HP
      clear he
      go_wp2_with (go_at_call 40; refine (HM.out _).mono ?_; rintro e w2 ⟨rfl, rfl⟩)
      go_quiet (first | (go_at_call 41; refine Calls.quiet_of_same (HTX.out _)))
      go_wp2_with (first
       | (go_at_call 42; refine (HWI.out _).mono ?_; rintro e w2 ⟨rfl, rfl⟩)
       | (go_at_call 44; refine (HP.out _).mono ?_; rintro e w2 ⟨A2, cap2, rfl, hB2, hb2⟩; have hbw : Below (w.heap.size + 1) w1 w2 := HBE.out.trans (((drewN_under wr _).trans (hb2.mono (drewN_under wr _).size)).mono (by have := HBE.out.size; have := HS1.out; omega)); have HB2 := Lib.hid hbw; have HO2 := Lib.hid (own_below (own_below HOWN.out (drewN_under wr _)) hb2); have HBS := Lib.hid hB2; clear hB2 hb2 hbw)
       | (at_builtin; refine wpList_append_bs2 rfl _ _ 34 rfl (w.heap.size + 1) 5 i0 Tryz.underlying34 hi hz0 hz1 hz2 _ _ pre rfl HO2.out _ _ _ fb rfl rfl HBS.out HLE.out (by have := HB2.out.size; have := HS1.out; omega) ?_; intro v3 w3 ho3 hg3 hm3; have HO3 := Lib.hid ho3; have HB3 := Lib.hid (HB2.out.grown hg3 (by have := HB2.out.size; have := HS1.out; omega) (fun j hj => (HO2.out.lt j hj).1)); clear ho3 hg3 hm3))
      go_roundw
      case rel => exact ⟨k + 1, _, _, by omega, by go_num, rfl, by rw [HFT.out]; exact HO3.out, HB3.out⟩
      case measure => simp [intOf]; omega
    ·have g1 : decide ((k : Int) < (n : Int)) = false := decide_eq_false (by omega)
     have e : l.take k = l := List.take_of_length_le (by have := HN.out; omega)
     rw [e, ← HPK.out] at hown
     obtain ⟨hm, Av, capv, hv, hBs⟩ := Bs.own hown
     subst hv
     have gs := run_string_bytes (P := Tryz.prog) hBs Tryz.underlying34 Tryz.underlying5 Tryz.underlying9
     have HBF := Lib.hid (HT.out _ HBE.out)
     clear hown e
     go_wp2
     go_ret
     exact ⟨rfl, HBF.out⟩
end Go.Proofs.YtloheacncefkgaaGreatDoor
