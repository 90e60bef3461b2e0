/- Several texts in one: EmDoL, EmDoA. What each proves, and its conditions, stands at its own head. -/
import Derived.Test.YtnhaeapkncnimaaPkW35
import Derived.Test.YtnhaeapkncnimaaPkW22
/- Plain on both, and an act that is none. Conditions: those that each theorem names. -/
namespace Go.Proofs.Ytnhaeapkncnimaa
open Go.RowKit
open Go.Lib (uvarint)
set_option linter.unusedVariables false
set_option maxRecDepth 100000

theorem do_other {B p q : Nat} {s : Ws} {m : Rs} {gs : List (List (List UInt8))} {w : World} (h : Two B w p q s m) (hl : Like s m gs) (hB : B ≤ w.heap.size) (k : Int) (hk : ∀ j : Int, 0 ≤ j → j ≤ 6 → k ≠ j) (num : Int) (n : Nat) (t : ByteArray) :
    Calls Try.prog 10 #[.pointer (some ⟨p, 0, none⟩), .pointer (some ⟨q, 0, none⟩), .agg #[.int .i64 k, .int .i64 num, .int .u64 (n : Int), .string t]] w (Did B w p q s) := by
  have g0 : (k == 0) = false := beq_false_of_ne (hk 0 (by decide) (by decide))
  have g1 : (k == 1) = false := beq_false_of_ne (hk 1 (by decide) (by decide))
  have g2 : (k == 2) = false := beq_false_of_ne (hk 2 (by decide) (by decide))
  have g3 : (k == 3) = false := beq_false_of_ne (hk 3 (by decide) (by decide))
  have g4 : (k == 4) = false := beq_false_of_ne (hk 4 (by decide) (by decide))
  have g5 : (k == 5) = false := beq_false_of_ne (hk 5 (by decide) (by decide))
  have g6 : (k == 6) = false := beq_false_of_ne (hk 6 (by decide) (by decide))
  have hb0 : Below w.heap.size w (w.alloc (.cells #[.int .i64 k, .int .i64 num, .int .u64 (n : Int), .string t] 32)) := (Below.refl _ w).alloc (Nat.le_refl _) _
  have h2 := two_bel h hb0
  have HB0 := Lib.hid hb0
  have HL := Lib.hid hl
  have H2 := Lib.hid h2
  clear h hl hb0 h2 hk
  go_enter Try.func10, Try.ntmps10
  go_wp2
  go_ret
  exact ⟨rfl, s, m, gs, H2.out, HL.out, HB0.out.mono hB, by omega, by omega, by omega⟩

set_option maxHeartbeats 1000000 in
theorem do_plain {B p q : Nat} {s : Ws} {m : Rs} {gs : List (List (List UInt8))} {w : World} (h : Two B w p q s m) (hl : Like s m gs) (hB : B ≤ w.heap.size) (hb : s.raw.length + s.room ≤ 1000000) (ho : s.op.length ≤ 1000) (hf : s.fs.length ≤ 1000) (num : Int) (n : Nat) (t : List UInt8) (ht : t.length ≤ 300) :
    Calls Try.prog 10 #[.pointer (some ⟨p, 0, none⟩), .pointer (some ⟨q, 0, none⟩), .agg #[.int .i64 6, .int .i64 num, .int .u64 (n : Int), .string (strOf t)]] w (Did B w p q s) := by
  have HC := run_bytes t
  have HCA : Hid (∀ w ty, ∃ A cap w', (Builtin.append_ #[38, 9] ty #[.slice (some ⟨w.heap.size, 0, none⟩) t.length (grownCap w t.length 0 5), .string (strOf t)]).run Try.prog (Lib.bytesWorld w 5 (strOf t)) = .ok (.slice A (t.length + t.length) cap) w' ∧
      Bs w' A cap (t ++ t) ∧ Below w.heap.size w w') := Lib.hid (fun w ty => conv_app w t ty (by omega))
  obtain ⟨gs2, init, last, hp1, hp2, hp3⟩ := hl.plain (t ++ t)
  have hlast : last.length ≤ 1000000 := by
    have := hl.total
    rw [hp1, List.flatten_append, List.length_append] at this
    simp at this
    omega
  have X0 := Lib.hid (two_box h (.cells #[.int .i64 6, .int .i64 num, .int .u64 (n : Int), .string (strOf t)] 32))
  have hb0 : Below w.heap.size w (w.alloc (.cells #[.int .i64 6, .int .i64 num, .int .u64 (n : Int), .string (strOf t)] 32)) := (Below.refl _ w).alloc (Nat.le_refl _) _
  obtain ⟨w1, hw1⟩ : ∃ w1, w1 = w.alloc (.cells #[.int .i64 6, .int .i64 num, .int .u64 (n : Int), .string (strOf t)] 32) := ⟨_, rfl⟩
  rw [← hw1] at X0 hb0
  have hB1 : B ≤ w1.heap.size := Nat.le_trans hB hb0.size
  have HP : Hid (∀ T w' Ab cb nb, Rf B w' q T m → Bs w' Ab cb (t ++ t) → nb = (t ++ t).length → Calls Try.prog 31 #[.pointer (some ⟨q, 0, none⟩), .slice Ab nb cb] w' (RfDone B w' q T (m.plain init last (t ++ t)))) :=
    Lib.hid (fun T w' Ab cb nb h hb hn => rplain_any h hp1 hb hn (by rw [List.length_append]; omega) (by omega))
  obtain ⟨N, hN⟩ : ∃ N, N = t.length := ⟨_, rfl⟩
  rw [← hN] at HC HCA ht
  have hgr : (s.plain (t ++ t)).raw.length + (s.plain (t ++ t)).room ≤ s.raw.length + s.room + 1000 ∧ (s.plain (t ++ t)).op.length ≤ s.op.length + 1 ∧ (s.plain (t ++ t)).fs.length ≤ s.fs.length + 1 := by
    refine ⟨?_, Nat.le_succ _, Nat.le_succ _⟩
    rw [plain_len, List.length_append]
    show _ + s.room ≤ _
    omega
  have HN := Lib.hid hN
  have HG := Lib.hid hgr
  have HL := Lib.hid hp3
  have HB0 := Lib.hid hb0
  have HW1 := Lib.hid hw1
  have c0 : (Lib.bytesWorld w1 5 (strOf t)).cell? ⟨w.heap.size, 3, none⟩ = some (.string (strOf t)) := by
    obtain ⟨_, _, _, _, _, _, q5, q6⟩ := X0.out
    exact (Lib.bytesWorld_old w1 _ _ ⟨w.heap.size, 3, none⟩ q6).trans (obj_cell q5 3)
  rw [hw1] at c0
  obtain ⟨A1, cap1, w2, hr, hBs1, hbe1⟩ := HCA.out w1 38
  rw [show w1.heap.size = w.heap.size + 1 by rw [hw1]; simp] at hr
  rw [hw1] at hr
  have HR := Lib.hid hr
  have HBS1 := Lib.hid hBs1
  have HBE1 := Lib.hid hbe1
  clear h hl hp1 hp2 hp3 hN hgr hb0 hw1 hr hBs1 hbe1
  go_enter Try.func10, Try.ntmps10
  go_wp2_with (first
    | (at_builtin; refine Lib.wpList_append_run _ rfl _ _ _ _ rfl _ _ rfl rfl _ _ HR.out ?_; clear c0)
    | (go_at_call 31
       obtain ⟨S1, T1, y1, y2, y3, y4, y5, y6⟩ := X0.out
       refine (HP.out T1 _ _ _ _ (y2.bel HBE1.out) HBS1.out (by rw [List.length_append, ← HN.out])).mono ?_
       rintro e w3 ⟨⟨v3, rfl⟩, S3, z1, z2, z3⟩
       have hx := twox_rf (v := v3) (y1.bel HBE1.out) (y2.bel HBE1.out) y3 y4 ((HBE1.out.block _ y6).trans y5) (Nat.lt_of_lt_of_le y6 HBE1.out.size) ⟨rfl, S3, z1, z2, z3⟩ (Nat.le_trans hB1 HBE1.out.size)
       have X1 := Lib.hid hx.2.1
       have Z1 := Lib.hid ((HBE1.out.mono hB1).trans hx.2.2)
       have c1 := (show w3.cell? ⟨w.heap.size, 3, none⟩ = some (.string (strOf t)) from by obtain ⟨_, _, _, _, _, _, q5, q6⟩ := hx.2.1; exact obj_cell q5 3)
       have c2 := (show (Lib.bytesWorld w3 5 (strOf t)).cell? ⟨w.heap.size, 3, none⟩ = some (.string (strOf t)) from by obtain ⟨_, _, _, _, _, _, q5, q6⟩ := hx.2.1; exact (Lib.bytesWorld_old w3 _ _ ⟨w.heap.size, 3, none⟩ q6).trans (obj_cell q5 3))
       clear hx y1 y2 y3 y4 y5 y6 z1 z2 z3)
    | (go_at_call 27
       obtain ⟨S1, T1, y1, y2, y3, _⟩ := X1.out
       have b1 := bytes_below w3 t
       have b2 := b1.trans ((bytes_below (Lib.bytesWorld w3 5 (strOf t)) t).mono b1.size)
       have e1 := bytes_size w3 t
       have e2 := bytes_size (Lib.bytesWorld w3 5 (strOf t)) t
       have b3 := (b2.alloc b2.size (.cells #[.slice (some ⟨w3.heap.size, 0, none⟩) N (grownCap w3 N 0 5), .slice (some ⟨(Lib.bytesWorld w3 5 (strOf t)).heap.size, 0, none⟩) N (grownCap (Lib.bytesWorld w3 5 (strOf t)) N 0 5)] 38))
       have k1 : ∀ k, S1 k → k < w3.heap.size := fun k hk => (y1.lt k hk).2
       have hq := plain_any (y1.bel b3) (pcs_two (w := Lib.bytesWorld (Lib.bytesWorld w3 5 (strOf t)) 5 (strOf t)) (S := S1) (fun k hk => by have := k1 k hk; omega) 38
         (hb := (by rw [HN.out]; exact ((bytes_bs w3 t (by unfold maxLen; rw [← HN.out]; omega)).below (bytes_below _ t) (Nat.le_refl _)))) HN.out (fun a ha => by cases ha; exact ⟨fun hs => Nat.lt_irrefl _ (k1 _ hs), by show w3.heap.size < _; omega⟩)
         (hb2 := (by rw [HN.out]; exact bytes_bs (Lib.bytesWorld w3 5 (strOf t)) t (by unfold maxLen; rw [← HN.out]; omega))) HN.out (fun a ha => by cases ha; exact ⟨fun hs => by have := k1 _ hs; simp only at this; omega, by show (Lib.bytesWorld w3 5 (strOf t)).heap.size < _; omega⟩)) rfl (by simp only [List.flatten_cons, List.flatten_nil, List.append_nil, List.length_append, ← HN.out]; omega)
       refine hq.mono ?_; clear hq
       rintro e w6 ht
       have hx := two_wr (y1.bel b3) (y2.bel b3) y3 ht (Nat.le_trans (Nat.le_trans hB1 Z1.out.size) b3.size)
       obtain ⟨rfl, x2, x3⟩ := hx
       have X2 := Lib.hid x2
       have Z2 := Lib.hid ((b3.mono (Nat.le_trans hB1 Z1.out.size)).trans x3)
       clear ht x2 x3 y1 y2 y3 b1 b2 b3 e1 e2 k1))
  go_ret
  have q := X2.out
  simp only [List.flatten_cons, List.flatten_nil, List.append_nil] at q
  exact ⟨rfl, _, _, gs2, q, HL.out, ((HB0.out.mono hB).trans Z1.out).trans Z2.out, HG.out.1, HG.out.2.1, HG.out.2.2⟩
end Go.Proofs.Ytnhaeapkncnimaa

/- Any act on both. Conditions: those that each theorem names. -/
namespace Go.Proofs.Ytnhaeapkncnimaa
open Go.RowKit
set_option linter.unusedVariables false

theorem do_any {B p q : Nat} {s : Ws} {m : Rs} {gs : List (List (List UInt8))} {w : World} (h : Two B w p q s m) (hl : Like s m gs) (hB : B ≤ w.heap.size) (hb : s.raw.length + s.room ≤ 1000000) (ho : s.op.length ≤ 1000) (hf : s.fs.length ≤ 1000) (a : Ac) (hn : a.n < 18446744073709551616) (ht : a.s.length ≤ 300) :
    Calls Try.prog 10 #[.pointer (some ⟨p, 0, none⟩), .pointer (some ⟨q, 0, none⟩), .agg #[.int .i64 a.what, .int .i64 a.num, .int .u64 (a.n : Int), .string (strOf a.s)]] w (Did B w p q s) := by
  obtain ⟨what, num, n, t⟩ := a
  by_cases h0 : what = 0
  · subst h0; exact do_varint h hl hB hb ho hf num n hn _
  by_cases h1 : what = 1
  · subst h1; exact do_fixed8 h hl hB hb ho hf num n hn _
  by_cases h2 : what = 2
  · subst h2; exact do_text h hl hB hb ho hf num n hn t ht
  by_cases h3 : what = 3
  · subst h3; exact do_open h hl hB hb ho hf num n _
  by_cases h4 : what = 4
  · subst h4; exact do_close h hl hB hb ho hf num n _
  by_cases h5 : what = 5
  · subst h5; exact do_fixed4 h hl hB hb ho hf num n hn _
  by_cases h6 : what = 6
  · subst h6; exact do_plain h hl hB hb ho hf num n t ht
  exact do_other h hl hB what (fun j h0 h1 => by omega) num n _
end Go.Proofs.Ytnhaeapkncnimaa
