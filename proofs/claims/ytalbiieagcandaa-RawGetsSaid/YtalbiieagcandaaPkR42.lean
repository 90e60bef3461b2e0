/- Several texts in one: RemB. What each proves, and its conditions, stands at its own head. -/
import Derived.Test.YtalbiieagcandaaPkR41
import Derived.Test.YtalbiieagcandaaPkR3
import Derived.Test.YtalbiieagcandaaPkR4
import Derived.IntWalk
import Derived.Test.YtalbiieagcandaaPkR12
import Derived.Test.YtalbiieagcandaaPkR1
import Derived.Test.YtalbiieagcandaaPkR0
/- The document's bytes of a field. Conditions: those that each theorem names. -/
namespace Go.Proofs.Ytalbiieagcandaa
open Go.RowKit
open Go.Lib (uvarint)
set_option linter.unusedVariables false
set_option maxRecDepth 100000

theorem rtag_any (num wire : Int) (w : World) (hr : rightB num wire = true) :
    Calls Try.prog 48 #[.int .i64 num, .int .i64 wire] w (GivesOwn w (uvarint (tagN num wire))) := by
  have HO := Lib.hid (rof_any num wire w hr)
  have hlt := tagN_lt num wire
  generalize tagN num wire = tg at *
  have HLT := Lib.hid hlt
  clear hr hlt
  go_enter Try.func48, Try.ntmps48
  go_wp2_with (first
    | (go_at_call 66; refine HO.out.mono ?_; rintro e w' ⟨rfl, rfl⟩)
    | (go_at_call 49; refine (rput_own _ _ (by have := HLT.out; omega)).mono ?_; rintro e w1 ⟨v, n, rfl, ho, hb⟩; have HO1 := Lib.hid ho; have HB1 := Lib.hid hb; clear ho hb))
  go_ret
  exact ⟨_, _, rfl, HO1.out, HB1.out⟩
/-- What stands behind a field's tag. -/
def valB (wire : Int) (n : Nat) (t : List UInt8) : List UInt8 :=
  if wire = 0 then uvarint n else if wire = 1 then le 8 n else if wire = 5 then le 4 n else uvarint t.length ++ t
def fieldBs (num wire : Int) (n : Nat) (t : List UInt8) : List UInt8 := uvarint (tagN num wire) ++ valB wire n t

theorem rbytes_0 (num : Int) (n : Nat) (t : ByteArray) (w : World) (hr : rightB num 0 = true) (hn : n < 18446744073709551616) :
    Calls Try.prog 30 #[.int .i64 num, .int .i64 0, .int .u64 (n : Int), .string t] w (GivesOwn w (uvarint (tagN num 0) ++ uvarint n)) := by
  obtain ⟨i0, hi, hz0, hz1, hz2⟩ := info_parts info_u8
  have HT := Lib.hid (rtag_any num 0 w hr)
  have hl1 : (uvarint (tagN num 0)).length ≤ 10 := Lib.uvarint_length64 (by have := tagN_lt num 0; omega)
  have hl2 : (uvarint n).length ≤ 10 := Lib.uvarint_length64 hn
  have HP := Lib.hid (fun w => rput_any n w hn)
  generalize uvarint (tagN num 0) = tb at *
  generalize uvarint n = vb at *
  clear hr
  go_enter Try.func30, Try.ntmps30
  go_wp2_with (first
    | (go_at_call 48; refine HT.out.mono ?_; rintro e w1 ⟨v1, n1, rfl, ho1, hb1⟩; obtain ⟨hn1, _⟩ := Bs.own ho1; subst hn1; have HO1 := Lib.hid ho1; have HB1 := Lib.hid hb1; clear ho1 hb1)
    | (go_at_call 49; refine (HP.out _).mono ?_; rintro e w2 ⟨A2, cap2, rfl, hB2, hb2⟩; have HO2 := Lib.hid (own_below HO1.out hb2); have HB2 := Lib.hid (HB1.out.trans (hb2.mono HB1.out.size)); have HBS := Lib.hid hB2; clear hB2 hb2)
    | (at_builtin; refine wpList_append_bs2 rfl _ _ _ rfl w.heap.size 5 i0 Try.underlying29 hi hz0 hz1 hz2 _ _ tb rfl HO2.out _ _ _ vb rfl rfl HBS.out (by omega) HB2.out.size ?_; intro v3 w3 ho3 hg3 hm3; have HO3 := Lib.hid ho3; have HB3 := Lib.hid (HB2.out.grown hg3 HB2.out.size (fun k e => (HO2.out.lt k e).1)); clear ho3 hg3 hm3))
  go_ret
  exact ⟨_, _, rfl, HO3.out, HB3.out⟩
theorem rbytes_1 (num : Int) (n : Nat) (t : ByteArray) (w : World) (hr : rightB num 1 = true) (hn : n < 18446744073709551616) :
    Calls Try.prog 30 #[.int .i64 num, .int .i64 1, .int .u64 (n : Int), .string t] w (GivesOwn w (uvarint (tagN num 1) ++ le 8 n)) := by
  obtain ⟨i0, hi, hz0, hz1, hz2⟩ := info_parts info_u8
  have HT := Lib.hid (rtag_any num 1 w hr)
  have hl1 : (uvarint (tagN num 1)).length ≤ 10 := Lib.uvarint_length64 (by have := tagN_lt num 1; omega)
  have hl2 : (le 8 n).length ≤ 10 := by rw [le_length]; decide
  have HP := Lib.hid (fun w => fput_any n 8 w hn (by decide))
  generalize uvarint (tagN num 1) = tb at *
  generalize le 8 n = vb at *
  clear hr
  go_enter Try.func30, Try.ntmps30
  go_wp2_with (first
    | (go_at_call 48; refine HT.out.mono ?_; rintro e w1 ⟨v1, n1, rfl, ho1, hb1⟩; obtain ⟨hn1, _⟩ := Bs.own ho1; subst hn1; have HO1 := Lib.hid ho1; have HB1 := Lib.hid hb1; clear ho1 hb1)
    | (go_at_call 50; refine (HP.out _).mono ?_; rintro e w2 ⟨A2, cap2, rfl, hB2, hb2⟩; have HO2 := Lib.hid (own_below HO1.out hb2); have HB2 := Lib.hid (HB1.out.trans (hb2.mono HB1.out.size)); have HBS := Lib.hid hB2; clear hB2 hb2)
    | (at_builtin; refine wpList_append_bs2 rfl _ _ _ rfl w.heap.size 5 i0 Try.underlying29 hi hz0 hz1 hz2 _ _ tb rfl HO2.out _ _ _ vb rfl rfl HBS.out (by omega) HB2.out.size ?_; intro v3 w3 ho3 hg3 hm3; have HO3 := Lib.hid ho3; have HB3 := Lib.hid (HB2.out.grown hg3 HB2.out.size (fun k e => (HO2.out.lt k e).1)); clear ho3 hg3 hm3))
  go_ret
  exact ⟨_, _, rfl, HO3.out, HB3.out⟩
theorem rbytes_5 (num : Int) (n : Nat) (t : ByteArray) (w : World) (hr : rightB num 5 = true) (hn : n < 18446744073709551616) :
    Calls Try.prog 30 #[.int .i64 num, .int .i64 5, .int .u64 (n : Int), .string t] w (GivesOwn w (uvarint (tagN num 5) ++ le 4 n)) := by
  obtain ⟨i0, hi, hz0, hz1, hz2⟩ := info_parts info_u8
  have HT := Lib.hid (rtag_any num 5 w hr)
  have hl1 : (uvarint (tagN num 5)).length ≤ 10 := Lib.uvarint_length64 (by have := tagN_lt num 5; omega)
  have hl2 : (le 4 n).length ≤ 10 := by rw [le_length]; decide
  have HP := Lib.hid (fun w => fput_any n 4 w hn (by decide))
  generalize uvarint (tagN num 5) = tb at *
  generalize le 4 n = vb at *
  clear hr
  go_enter Try.func30, Try.ntmps30
  go_wp2_with (first
    | (go_at_call 48; refine HT.out.mono ?_; rintro e w1 ⟨v1, n1, rfl, ho1, hb1⟩; obtain ⟨hn1, _⟩ := Bs.own ho1; subst hn1; have HO1 := Lib.hid ho1; have HB1 := Lib.hid hb1; clear ho1 hb1)
    | (go_at_call 50; refine (HP.out _).mono ?_; rintro e w2 ⟨A2, cap2, rfl, hB2, hb2⟩; have HO2 := Lib.hid (own_below HO1.out hb2); have HB2 := Lib.hid (HB1.out.trans (hb2.mono HB1.out.size)); have HBS := Lib.hid hB2; clear hB2 hb2)
    | (at_builtin; refine wpList_append_bs2 rfl _ _ _ rfl w.heap.size 5 i0 Try.underlying29 hi hz0 hz1 hz2 _ _ tb rfl HO2.out _ _ _ vb rfl rfl HBS.out (by omega) HB2.out.size ?_; intro v3 w3 ho3 hg3 hm3; have HO3 := Lib.hid ho3; have HB3 := Lib.hid (HB2.out.grown hg3 HB2.out.size (fun k e => (HO2.out.lt k e).1)); clear ho3 hg3 hm3))
  go_ret
  exact ⟨_, _, rfl, HO3.out, HB3.out⟩
theorem rbytes_2 (num : Int) (n : Int) (t : List UInt8) (w : World) (hr : rightB num 2 = true) (ht : t.length ≤ 140737488351232) :
    Calls Try.prog 30 #[.int .i64 num, .int .i64 2, .int .u64 n, .string (strOf t)] w (GivesOwn w (uvarint (tagN num 2) ++ (uvarint t.length ++ t))) := by
  obtain ⟨i0, hi, hz0, hz1, hz2⟩ := info_parts info_u8
  have HT := Lib.hid (rtag_any num 2 w hr)
  have hl1 : (uvarint (tagN num 2)).length ≤ 10 := Lib.uvarint_length64 (by have := tagN_lt num 2; omega)
  have hn64 : t.length < 18446744073709551616 := by omega
  have hl2 : (uvarint t.length).length ≤ 10 := Lib.uvarint_length64 hn64
  obtain ⟨N, hN⟩ : ∃ N, N = t.length := ⟨_, rfl⟩
  have hsz : (strOf t).size = N := by rw [hN]; simp [strOf, ByteArray.size]
  rw [← hN] at ht hn64 hl2 ⊢
  have hwr : IntKind.u64.wrap (N : Int) = (N : Int) := IntWalk.u64_in _ (by omega)
  have HP := Lib.hid (fun w => rput_any N w hn64)
  have HN := Lib.hid hN
  have HSZ := Lib.hid hsz
  generalize uvarint (tagN num 2) = tb at *
  generalize uvarint N = vb at *
  clear hr hN
  go_enter Try.func30, Try.ntmps30
  go_wp2_with (first
    | (go_at_call 48; refine HT.out.mono ?_; rintro e w1 ⟨v1, n1, rfl, ho1, hb1⟩; obtain ⟨hn1, _⟩ := Bs.own ho1; subst hn1; have HO1 := Lib.hid ho1; have HB1 := Lib.hid hb1; clear ho1 hb1)
    | (go_at_call 49; refine (HP.out _).mono ?_; rintro e w2 ⟨A2, cap2, rfl, hB2, hb2⟩; have HO2 := Lib.hid (own_below HO1.out hb2); have HB2 := Lib.hid (HB1.out.trans (hb2.mono HB1.out.size)); have HBS := Lib.hid hB2; clear hB2 hb2)
    | (at_builtin; refine wpList_append_bs2 rfl _ _ 29 rfl w.heap.size 5 i0 Try.underlying29 hi hz0 hz1 hz2 _ _ tb rfl HO2.out _ _ _ vb rfl rfl HBS.out (by omega) HB2.out.size ?_; intro v3 w3 ho3 hg3 hm3; have HO3 := Lib.hid ho3; have HB3 := Lib.hid (HB2.out.grown hg3 HB2.out.size (fun k e => (HO2.out.lt k e).1)); clear ho3 hg3 hm3 HBS)
    | (at_builtin; refine Lib.wpList_append_own_string _ rfl _ _ 29 9 rfl w.heap.size 5 i0 Try.underlying29 Try.underlying9 hi hz0 hz1 hz2 _ _ (cellsOf (tb ++ vb)) rfl HO3.out (strOf t) rfl (by rw [HSZ.out]; unfold maxLen; omega) (by rw [HSZ.out]; omega) HB3.out.size ?_; intro v4 w4 ho4 hg4 hm4; have HO4 := Lib.hid ho4; have HB4 := Lib.hid (HB3.out.grown hg4 HB3.out.size (fun k e => (HO3.out.lt k e).1)); clear ho4 hg4 hm4))
  go_ret
  have q := HO4.out
  rw [strCells_strOf, ← cellsOf_append, List.append_assoc] at q
  exact ⟨_, _, rfl, q, HB4.out⟩
end Go.Proofs.Ytalbiieagcandaa
