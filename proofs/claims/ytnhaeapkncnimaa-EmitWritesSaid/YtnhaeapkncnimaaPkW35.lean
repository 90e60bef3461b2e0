/- Several texts in one: EmDo, EmDoO, EmDoP, EmDo4, EmDo8, EmDoT, EmDoV. What each proves, and its conditions, stands at its own head. -/
import Derived.Test.YtnhaeapkncnimaaPkW34
import Derived.Test.YtnhaeapkncnimaaPkW28
import Derived.Deep.CutRange
import Derived.Deep.RegionLaw
import Derived.Deep.RegionHeld3
/- One act on both. Conditions: those that each theorem names. -/
namespace Go.Proofs.Ytnhaeapkncnimaa
open Go.RowKit
open Go.Lib (uvarint)
set_option linter.unusedVariables false
set_option maxRecDepth 100000

/-- Both after an act: as like as before, and not much longer. -/
def Did (B : Nat) (w : World) (p q : Nat) (s : Ws) (e : Ending) (w' : World) : Prop :=
  e = .returned (.bool true) ∧ ∃ s' m' gs', Two B w' p q s' m' ∧ Like s' m' gs' ∧ Below B w w' ∧
    s'.raw.length + s'.room ≤ s.raw.length + s.room + 1000 ∧ s'.op.length ≤ s.op.length + 1 ∧ s'.fs.length ≤ s.fs.length + 1

set_option maxHeartbeats 400000 in
theorem do_close {B p q : Nat} {s : Ws} {m : Rs} {gs : List (List (List UInt8))} {w : World} (h : Two B w p q s m) (hl : Like s m gs) (hB : B ≤ w.heap.size) (hb : s.raw.length + s.room ≤ 1000000) (ho : s.op.length ≤ 1000) (hf : s.fs.length ≤ 1000) (num : Int) (n : Nat) (t : ByteArray) :
    Calls Try.prog 10 #[.pointer (some ⟨p, 0, none⟩), .pointer (some ⟨q, 0, none⟩), .agg #[.int .i64 4, .int .i64 num, .int .u64 (n : Int), .string t]] w (Did B w p q s) := by
  have hb0 : Below w.heap.size w (w.alloc (.cells #[.int .i64 4, .int .i64 num, .int .u64 (n : Int), .string t] 32)) := (Below.refl _ w).alloc (Nat.le_refl _) _
  obtain ⟨w1, hw1⟩ : ∃ w1, w1 = w.alloc (.cells #[.int .i64 4, .int .i64 num, .int .u64 (n : Int), .string t] 32) := ⟨_, rfl⟩
  rw [← hw1] at hb0
  obtain ⟨S, T, h1, h2, h3⟩ := two_bel h hb0
  have hB1 : B ≤ w1.heap.size := Nat.le_trans hB hb0.size
  have HB0 := Lib.hid hb0
  have HL := Lib.hid hl
  by_cases hop : s.op = []
  · have hn0 : m.nums = [] := List.eq_nil_of_length_eq_zero (by rw [hl.nums, hop]; rfl)
    have C1 := Lib.hid (wclose_no h1 hop)
    have HD : Hid (∀ e w2, WrTo B w1 p S true s (.bool false) e w2 → e = .returned (.bool false) ∧ Two B w2 p q s m ∧ Below B w1 w2) := Lib.hid (fun e w2 ht => two_wr h1 h2 h3 ht hB1)
    clear h h1 h2 h3 hl hb0
    go_enter Try.func10, Try.ntmps10
    go_wp2_with (first
      | (go_at_call 18; rw [← hw1]; refine C1.out.mono ?_; rintro e w2 ht; obtain ⟨rfl, x2, x3⟩ := HD.out _ _ ht; have X2 := Lib.hid x2; have X3 := Lib.hid x3; clear x2 x3 ht)
      | (go_at_call 30; obtain ⟨S2, T2, z1, z2, z3⟩ := X2.out; refine (rclose_no z2 hn0).mono ?_; rintro e w3 ht; obtain ⟨rfl, y2, y3⟩ := two_rf z1 z2 z3 ht (Nat.le_trans hB1 X3.out.size); have Y2 := Lib.hid y2; have Y3 := Lib.hid y3; clear y2 y3 ht z1 z2 z3))
    go_ret
    exact ⟨rfl, s, m, gs, Y2.out, HL.out, ((HB0.out.mono hB).trans X3.out).trans Y3.out, by omega, by omega, by omega⟩
  · obtain ⟨init, o, f, ini, pen, last, ns, nm, gs', c1, c2, c3, c4, c5, c6, c7, c8, c9, c10, c11, c12⟩ := hl.close hop
    have ht0 := hl.total
    have ht1 := c12.total
    have hu1 := tag_len nm 2
    have hlast : last.length ≤ 1000000 := by rw [ht0, c7] at hb; simp at hb; omega
    have hu2 : (uvarint last.length).length ≤ 10 := Lib.uvarint_length64 (by omega)
    have hpe : pen.length ≤ 1000000 := by rw [ht0, c7] at hb; simp at hb; omega
    have hgrow : (s.shut init o f).raw.length + (s.shut init o f).room ≤ s.raw.length + s.room + 1000 := by
      rw [ht0, ht1, c7]
      simp only [List.flatten_append, List.flatten_cons, List.flatten_nil, List.length_append, List.length_nil]
      omega
    have hil : ini.length ≤ 1000 := by rw [c11]; rw [c1] at ho; simp at ho; omega
    have hop2 : (s.shut init o f).op.length ≤ s.op.length + 1 := by rw [c1]; unfold Ws.shut Ws.shut1 Ws.lay; split <;> simp <;> omega
    have hfs2 : (s.shut init o f).fs.length ≤ s.fs.length + 1 := by unfold Ws.shut Ws.shut1 Ws.lay; split <;> simp
    have C1 := Lib.hid (wclose_any h1 c1 c2 (by rw [c3]; have := tagN_lt nm 2; omega) c4 (by omega) (by omega) (by omega) (fun _ => c5) (fun _ => c6))
    have HD : Hid (∀ e w2, WrTo B w1 p S true (s.shut init o f) (.bool true) e w2 → e = .returned (.bool true) ∧ Two B w2 p q (s.shut init o f) m ∧ Below B w1 w2) := Lib.hid (fun e w2 ht => two_wr h1 h2 h3 ht hB1)
    have HC : Hid (∀ T2 w2, Rf B w2 q T2 m → Calls Try.prog 30 #[.pointer (some ⟨q, 0, none⟩)] w2 (RfTo B w2 q T2 ⟨ini ++ [pen ++ (uvarint (tagN nm 2) ++ (uvarint last.length ++ last))], ns⟩ (.bool true))) :=
      Lib.hid (fun T2 w2 h => rclose_any h c7 c8 c9 c10 (by omega) (by simp only [List.length_append]; omega) (by omega))
    have HG := Lib.hid (And.intro hgrow (And.intro hop2 (And.intro hfs2 c12)))
    clear h h1 h2 h3 hl hb0 c1 c2 c3 c4 c5 c6 c7 c8 c9 c10 c11 c12 ht0 ht1 hgrow hop2 hfs2 hu1 hu2 hlast hpe hil
    go_enter Try.func10, Try.ntmps10
    go_wp2_with (first
      | (go_at_call 18; rw [← hw1]; refine C1.out.mono ?_; rintro e w2 ht; obtain ⟨rfl, x2, x3⟩ := HD.out _ _ ht; have X2 := Lib.hid x2; have X3 := Lib.hid x3; clear x2 x3 ht)
      | (go_at_call 30; obtain ⟨S2, T2, z1, z2, z3⟩ := X2.out; refine (HC.out T2 _ z2).mono ?_; rintro e w3 ht; obtain ⟨rfl, y2, y3⟩ := two_rf z1 z2 z3 ht (Nat.le_trans hB1 X3.out.size); have Y2 := Lib.hid y2; have Y3 := Lib.hid y3; clear y2 y3 ht z1 z2 z3))
    go_ret
    exact ⟨rfl, _, _, gs', Y2.out, HG.out.2.2.2, ((HB0.out.mono hB).trans X3.out).trans Y3.out, HG.out.1, HG.out.2.1, HG.out.2.2.1⟩
end Go.Proofs.Ytnhaeapkncnimaa

/- Open on both. Conditions: those that each theorem names. -/
namespace Go.Proofs.Ytnhaeapkncnimaa
open Go.RowKit
open Go.Lib (uvarint)
set_option linter.unusedVariables false
set_option maxRecDepth 100000

set_option maxHeartbeats 400000 in
theorem do_open {B p q : Nat} {s : Ws} {m : Rs} {gs : List (List (List UInt8))} {w : World} (h : Two B w p q s m) (hl : Like s m gs) (hB : B ≤ w.heap.size) (hb : s.raw.length + s.room ≤ 1000000) (ho : s.op.length ≤ 1000) (hf : s.fs.length ≤ 1000) (num : Int) (n : Nat) (t : ByteArray) :
    Calls Try.prog 10 #[.pointer (some ⟨p, 0, none⟩), .pointer (some ⟨q, 0, none⟩), .agg #[.int .i64 3, .int .i64 num, .int .u64 (n : Int), .string t]] w (Did B w p q s) := by
  have hb0 : Below w.heap.size w (w.alloc (.cells #[.int .i64 3, .int .i64 num, .int .u64 (n : Int), .string t] 32)) := (Below.refl _ w).alloc (Nat.le_refl _) _
  have X0 : Hid (TwoX B (w.alloc (.cells #[.int .i64 3, .int .i64 num, .int .u64 (n : Int), .string t] 32)).drew p q w.heap.size _ s m) := Lib.hid (by
    obtain ⟨S, T, h1, h2, h3, h4, h5, h6⟩ := two_box h (.cells #[.int .i64 3, .int .i64 num, .int .u64 (n : Int), .string t] 32)
    exact ⟨S, T, h1.bel (drew_below _ 1), h2.bel (drew_below _ 1), h3, h4, h5, h6⟩)
  have hpl : m.parts.length = s.op.length + 1 := by rw [hl.parts, List.length_map, hl.len]
  obtain ⟨r, hr⟩ : ∃ r, r = rightB num 2 := ⟨_, rfl⟩
  obtain ⟨m2, gs2, hl2, hk⟩ : ∃ m2 gs2, Like (s.opens num) m2 gs2 ∧ ∀ T w', Rf B w' q T m → Calls Try.prog 29 #[.pointer (some ⟨q, 0, none⟩), .int .i64 num] w' (RfTo B w' q T m2 (.bool r)) := by
    cases r with
    | true => exact ⟨_, _, hl.opens num hr.symm, fun T w' h => ropen_any h num hr.symm (by omega) (by have := hl.nums; omega)⟩
    | false => exact ⟨m, gs, by unfold Ws.opens; rw [← hr]; exact hl, fun T w' h => ropen_no h num hr.symm⟩
  have HW : Hid (∀ S w', Wr B w' p S true s → Calls Try.prog 16 #[.pointer (some ⟨p, 0, none⟩), .int .i64 num] w' (WrTo B w' p S true (s.opens num) (.bool r))) :=
    Lib.hid (fun S w' h => by rw [hr]; exact wopen_any h num (by omega) (by omega) (by omega))
  have hg : (s.opens num).raw.length + (s.opens num).room ≤ s.raw.length + s.room + 1000 ∧ (s.opens num).op.length ≤ s.op.length + 1 ∧ (s.opens num).fs.length ≤ s.fs.length + 1 := by
    unfold Ws.opens; split <;> simp <;> omega
  have HK := Lib.hid hk
  have HL2 := Lib.hid hl2
  have HG := Lib.hid hg
  have HB0 := Lib.hid hb0
  clear h hl hk hl2 hg hb0 hpl hr
  go_enter Try.func10, Try.ntmps10
  go_wp2
  have hBs : B ≤ (w.alloc (.cells #[.int .i64 3, .int .i64 num, .int .u64 (n : Int), .string t] 32)).heap.size := Nat.le_trans hB HB0.out.size
  go_region_with
    (first
      | (go_at_call 16; (obtain ⟨S1, T1, y1, y2, y3, y4, y5, y6⟩ := X0.out; refine (HW.out _ _ y1).mono ?_; rintro e w2 ht; obtain ⟨rfl, x2, x3⟩ := twox_wr y1 y2 y3 y4 y5 y6 ht hBs; have X1 := Lib.hid x2; have Z1 := Lib.hid x3; have b1 := (show w2.cell? ⟨w.heap.size, 1, none⟩ = some (.int .i64 num) from by obtain ⟨_, _, _, _, _, _, q5, _⟩ := x2; exact obj_cell q5 1); clear x2 x3 ht y1 y2 y3 y4 y5 y6))
      | (go_at_call 29; (obtain ⟨S1, T1, y1, y2, y3, y4, y5, y6⟩ := X1.out; refine (HK.out _ _ y2).mono ?_; rintro e w3 ht; obtain ⟨rfl, x2, x3⟩ := twox_rf y1 y2 y3 y4 y5 y6 ht (Nat.le_trans hBs Z1.out.size); have X2 := Lib.hid x2; have Z2 := Lib.hid x3; clear x2 x3 ht y1 y2 y3 y4 y5 y6))
      | (go_at_call 29; (obtain ⟨S1, T1, y1, y2, y3, y4, y5, y6⟩ := X0.out; refine (HK.out _ _ y2).mono ?_; rintro e w2 ht; obtain ⟨rfl, x2, x3⟩ := twox_rf y1 y2 y3 y4 y5 y6 ht hBs; have X3 := Lib.hid x2; have Z1 := Lib.hid x3; have b1 := (show w2.cell? ⟨w.heap.size, 1, none⟩ = some (.int .i64 num) from by obtain ⟨_, _, _, _, _, _, q5, _⟩ := x2; exact obj_cell q5 1); clear x2 x3 ht y1 y2 y3 y4 y5 y6))
      | (go_at_call 16; (obtain ⟨S1, T1, y1, y2, y3, y4, y5, y6⟩ := X3.out; refine (HW.out _ _ y1).mono ?_; rintro e w3 ht; obtain ⟨rfl, x2, x3⟩ := twox_wr y1 y2 y3 y4 y5 y6 ht (Nat.le_trans hBs Z1.out.size); have X2 := Lib.hid x2; have Z2 := Lib.hid x3; clear x2 x3 ht y1 y2 y3 y4 y5 y6)))
  all_goals go_wp2
  all_goals
    go_ret
    exact ⟨by cases r <;> rfl, _, m2, gs2, X2.out.two, HL2.out, ((HB0.out.mono hB).drew.trans Z1.out).trans Z2.out, HG.out.1, HG.out.2.1, HG.out.2.2⟩
end Go.Proofs.Ytnhaeapkncnimaa

/- A field on the document's writer, as like as on the writer. Conditions: those that each theorem names. -/
namespace Go.Proofs.Ytnhaeapkncnimaa
open Go.RowKit
open Go.Lib (uvarint)
set_option linter.unusedVariables false

theorem like_field {B q : Nat} {s : Ws} {m : Rs} {gs : List (List (List UInt8))} (hl : Like s m gs) (num wire : Int) (bs : List UInt8) (n : Int) (t : ByteArray)
    (hb : s.raw.length + s.room ≤ 1000000) (ho : s.op.length ≤ 1000) (hbs : bs.length ≤ 900)
    (hby : ∀ w, rightB num wire = true → Calls Try.prog 47 #[.int .i64 num, .int .i64 wire, .int .u64 n, .string t] w (GivesOwn w (uvarint (tagN num wire) ++ bs))) :
    ∃ m2 gs2, Like (s.field num wire bs) m2 gs2 ∧ ∀ T w', Rf B w' q T m → Calls Try.prog 28 #[.pointer (some ⟨q, 0, none⟩), .int .i64 num, .int .i64 wire, .int .u64 n, .string t] w' (RfTo B w' q T m2 (.bool (rightB num wire))) := by
  cases hr : rightB num wire with
  | false => exact ⟨m, gs, by unfold Ws.field; rw [hr, if_neg (by simp)]; exact hl, fun T w' h => rfield_no h num wire n t hr⟩
  | true =>
    obtain ⟨gs2, init, last, h1, h2, h3⟩ := hl.plain (uvarint (tagN num wire) ++ bs)
    have hlast : last.length ≤ 1000000 := by
      have := hl.total
      rw [h1, List.flatten_append, List.length_append] at this
      simp at this
      omega
    refine ⟨m.plain init last (uvarint (tagN num wire) ++ bs), gs2, by unfold Ws.field; rw [hr, if_pos rfl]; exact h3, fun T w' h => ?_⟩
    exact rfield_any h h1 num wire n t hr (fun w => hby w hr) (by have := tag_len num wire; rw [List.length_append]; omega) (by omega)
theorem field_grow (s : Ws) (num wire : Int) (bs : List UInt8) (hbs : bs.length ≤ 900) :
    (s.field num wire bs).raw.length + (s.field num wire bs).room ≤ s.raw.length + s.room + 1000 ∧ (s.field num wire bs).op.length ≤ s.op.length + 1 ∧ (s.field num wire bs).fs.length ≤ s.fs.length + 1 := by
  have := tag_len num wire
  unfold Ws.field
  split
  · refine ⟨?_, Nat.le_succ _, Nat.le_succ _⟩
    rw [plain_len, List.length_append]
    show _ + s.room ≤ _
    omega
  · exact ⟨by omega, by omega, by omega⟩
end Go.Proofs.Ytnhaeapkncnimaa

/- Fixed4 on both. Conditions: those that each theorem names. -/
namespace Go.Proofs.Ytnhaeapkncnimaa
open Go.RowKit
open Go.Lib (uvarint)
set_option linter.unusedVariables false
set_option maxRecDepth 100000

set_option maxHeartbeats 4000000 in
theorem do_fixed4 {B p q : Nat} {s : Ws} {m : Rs} {gs : List (List (List UInt8))} {w : World} (h : Two B w p q s m) (hl : Like s m gs) (hB : B ≤ w.heap.size) (hb : s.raw.length + s.room ≤ 1000000) (ho : s.op.length ≤ 1000) (hf : s.fs.length ≤ 1000) (num : Int) (n : Nat) (hn : n < 18446744073709551616) (t : ByteArray) :
    Calls Try.prog 10 #[.pointer (some ⟨p, 0, none⟩), .pointer (some ⟨q, 0, none⟩), .agg #[.int .i64 5, .int .i64 num, .int .u64 (n : Int), .string t]] w (Did B w p q s) := by
  have hk4 : n % 4294967296 < 4294967296 := Nat.mod_lt _ (by decide)
  obtain ⟨k, hk4e⟩ : ∃ k, k = n % 4294967296 := ⟨_, rfl⟩
  rw [← hk4e] at hk4
  have g1 : (n : Int) % 4294967296 = (k : Int) := by omega
  have g2 : (n : Int).tmod 4294967296 = (k : Int) := by rw [Int.tmod_eq_emod_of_nonneg (by omega)]; exact g1
  have g3 : IntKind.u32.wrap (n : Int) = (k : Int) := by rw [hk4e]; simp [IntKind.wrap, IntKind.bits, IntKind.signed]
  have hb0 : Below w.heap.size w (w.alloc (.cells #[.int .i64 5, .int .i64 num, .int .u64 (n : Int), .string t] 32)) := (Below.refl _ w).alloc (Nat.le_refl _) _
  have X0 : Hid (TwoX B (w.alloc (.cells #[.int .i64 5, .int .i64 num, .int .u64 (n : Int), .string t] 32)).drew p q w.heap.size _ s m) := Lib.hid (by
    obtain ⟨S, T, h1, h2, h3, h4, h5, h6⟩ := two_box h (.cells #[.int .i64 5, .int .i64 num, .int .u64 (n : Int), .string t] 32)
    exact ⟨S, T, h1.bel (drew_below _ 1), h2.bel (drew_below _ 1), h3, h4, h5, h6⟩)
  obtain ⟨r, hr⟩ : ∃ r, r = rightB num 5 := ⟨_, rfl⟩
  obtain ⟨m2, gs2, hl2, hk⟩ := like_field (q := q) (B := B) hl num 5 (le 4 k) (k : Int) ⟨#[]⟩ hb ho (by rw [le_length]; omega) (fun w hr => rbytes_5 num k _ w hr (by omega))
  rw [← hr] at hk
  have HW : Hid (∀ S w', Wr B w' p S true s → Calls Try.prog 25 #[.pointer (some ⟨p, 0, none⟩), .int .i64 num, .int .u32 (k : Int)] w' (WrTo B w' p S true (s.field num 5 (le 4 k)) (.bool r))) :=
    Lib.hid (fun S w' h => by rw [hr]; exact wfixed4_any h num k hk4 (by omega))
  have hg := field_grow s num 5 (le 4 k) (by rw [le_length]; omega)
  have HK := Lib.hid hk
  have HL2 := Lib.hid hl2
  have HG := Lib.hid hg
  have HB0 := Lib.hid hb0
  clear hk4e hk4
  clear h hl hk hl2 hg hb0 hr
  go_enter Try.func10, Try.ntmps10
  go_wp2
  have hBs : B ≤ (w.alloc (.cells #[.int .i64 5, .int .i64 num, .int .u64 (n : Int), .string t] 32)).heap.size := Nat.le_trans hB HB0.out.size
  have X00 := X0.out
  have b01 : (w.alloc (.cells #[.int .i64 5, .int .i64 num, .int .u64 (n : Int), .string t] 32)).drew.cell? ⟨w.heap.size, 1, none⟩ = some (.int .i64 num) := by obtain ⟨_, _, _, _, _, _, q5, _⟩ := X00; exact obj_cell q5 1
  have b02 : (w.alloc (.cells #[.int .i64 5, .int .i64 num, .int .u64 (n : Int), .string t] 32)).drew.cell? ⟨w.heap.size, 2, none⟩ = some (.int .u64 (n : Int)) := by obtain ⟨_, _, _, _, _, _, q5, _⟩ := X00; exact obj_cell q5 2
  clear X00
  go_region_held3 (fun w' => w'.cell? ⟨w.heap.size, 1, none⟩ = some (.int .i64 num) ∧ w'.cell? ⟨w.heap.size, 2, none⟩ = some (.int .u64 (n : Int)))
    (first | exact ⟨c1, c2⟩ | exact ⟨b1, b2⟩ | exact ⟨b01, b02⟩)
    (first
      | (go_at_call 25; (obtain ⟨S1, T1, y1, y2, y3, y4, y5, y6⟩ := X0.out; refine (HW.out _ _ y1).mono ?_; rintro e w2 ht; obtain ⟨rfl, x2, x3⟩ := twox_wr y1 y2 y3 y4 y5 y6 ht hBs; have X1 := Lib.hid x2; have Z1 := Lib.hid x3; have b1 := (show w2.cell? ⟨w.heap.size, 1, none⟩ = some (.int .i64 num) from by obtain ⟨_, _, _, _, _, _, q5, _⟩ := x2; exact obj_cell q5 1); have b2 := (show w2.cell? ⟨w.heap.size, 2, none⟩ = some (.int .u64 (n : Int)) from by obtain ⟨_, _, _, _, _, _, q5, _⟩ := x2; exact obj_cell q5 2); clear x2 x3 ht y1 y2 y3 y4 y5 y6))
      | (go_at_call 28; (obtain ⟨S1, T1, y1, y2, y3, y4, y5, y6⟩ := X1.out; refine (HK.out _ _ y2).mono ?_; rintro e w3 ht; obtain ⟨rfl, x2, x3⟩ := twox_rf y1 y2 y3 y4 y5 y6 ht (Nat.le_trans hBs Z1.out.size); have X2 := Lib.hid x2; have Z2 := Lib.hid x3; have c1 := (show w3.cell? ⟨w.heap.size, 1, none⟩ = some (.int .i64 num) from by obtain ⟨_, _, _, _, _, _, q5, _⟩ := x2; exact obj_cell q5 1); have c2 := (show w3.cell? ⟨w.heap.size, 2, none⟩ = some (.int .u64 (n : Int)) from by obtain ⟨_, _, _, _, _, _, q5, _⟩ := x2; exact obj_cell q5 2); clear x2 x3 ht y1 y2 y3 y4 y5 y6)))
  go_wp2
  go_ret
  exact ⟨by cases r <;> rfl, _, m2, gs2, X2.out.two, HL2.out, ((HB0.out.mono hB).drew.trans Z1.out).trans Z2.out, HG.out.1, HG.out.2.1, HG.out.2.2⟩
end Go.Proofs.Ytnhaeapkncnimaa

/- Fixed8 on both. Conditions: those that each theorem names. -/
namespace Go.Proofs.Ytnhaeapkncnimaa
open Go.RowKit
open Go.Lib (uvarint)
set_option linter.unusedVariables false
set_option maxRecDepth 100000

set_option maxHeartbeats 4000000 in
theorem do_fixed8 {B p q : Nat} {s : Ws} {m : Rs} {gs : List (List (List UInt8))} {w : World} (h : Two B w p q s m) (hl : Like s m gs) (hB : B ≤ w.heap.size) (hb : s.raw.length + s.room ≤ 1000000) (ho : s.op.length ≤ 1000) (hf : s.fs.length ≤ 1000) (num : Int) (n : Nat) (hn : n < 18446744073709551616) (t : ByteArray) :
    Calls Try.prog 10 #[.pointer (some ⟨p, 0, none⟩), .pointer (some ⟨q, 0, none⟩), .agg #[.int .i64 1, .int .i64 num, .int .u64 (n : Int), .string t]] w (Did B w p q s) := by
  have hb0 : Below w.heap.size w (w.alloc (.cells #[.int .i64 1, .int .i64 num, .int .u64 (n : Int), .string t] 32)) := (Below.refl _ w).alloc (Nat.le_refl _) _
  have X0 : Hid (TwoX B (w.alloc (.cells #[.int .i64 1, .int .i64 num, .int .u64 (n : Int), .string t] 32)).drew p q w.heap.size _ s m) := Lib.hid (by
    obtain ⟨S, T, h1, h2, h3, h4, h5, h6⟩ := two_box h (.cells #[.int .i64 1, .int .i64 num, .int .u64 (n : Int), .string t] 32)
    exact ⟨S, T, h1.bel (drew_below _ 1), h2.bel (drew_below _ 1), h3, h4, h5, h6⟩)
  obtain ⟨r, hr⟩ : ∃ r, r = rightB num 1 := ⟨_, rfl⟩
  obtain ⟨m2, gs2, hl2, hk⟩ := like_field (q := q) (B := B) hl num 1 (le 8 n) (n : Int) ⟨#[]⟩ hb ho (by rw [le_length]; omega) (fun w hr => rbytes_1 num n _ w hr hn)
  rw [← hr] at hk
  have HW : Hid (∀ S w', Wr B w' p S true s → Calls Try.prog 26 #[.pointer (some ⟨p, 0, none⟩), .int .i64 num, .int .u64 (n : Int)] w' (WrTo B w' p S true (s.field num 1 (le 8 n)) (.bool r))) :=
    Lib.hid (fun S w' h => by rw [hr]; exact wfixed8_any h num n hn (by omega))
  have hg := field_grow s num 1 (le 8 n) (by rw [le_length]; omega)
  have HK := Lib.hid hk
  have HL2 := Lib.hid hl2
  have HG := Lib.hid hg
  have HB0 := Lib.hid hb0
  clear h hl hk hl2 hg hb0 hr
  go_enter Try.func10, Try.ntmps10
  go_wp2
  have hBs : B ≤ (w.alloc (.cells #[.int .i64 1, .int .i64 num, .int .u64 (n : Int), .string t] 32)).heap.size := Nat.le_trans hB HB0.out.size
  have X00 := X0.out
  have b01 : (w.alloc (.cells #[.int .i64 1, .int .i64 num, .int .u64 (n : Int), .string t] 32)).drew.cell? ⟨w.heap.size, 1, none⟩ = some (.int .i64 num) := by obtain ⟨_, _, _, _, _, _, q5, _⟩ := X00; exact obj_cell q5 1
  have b02 : (w.alloc (.cells #[.int .i64 1, .int .i64 num, .int .u64 (n : Int), .string t] 32)).drew.cell? ⟨w.heap.size, 2, none⟩ = some (.int .u64 (n : Int)) := by obtain ⟨_, _, _, _, _, _, q5, _⟩ := X00; exact obj_cell q5 2
  clear X00
  go_region_held3 (fun w' => w'.cell? ⟨w.heap.size, 1, none⟩ = some (.int .i64 num) ∧ w'.cell? ⟨w.heap.size, 2, none⟩ = some (.int .u64 (n : Int)))
    (first | exact ⟨c1, c2⟩ | exact ⟨b1, b2⟩ | exact ⟨b01, b02⟩)
    (first
      | (go_at_call 26; (obtain ⟨S1, T1, y1, y2, y3, y4, y5, y6⟩ := X0.out; refine (HW.out _ _ y1).mono ?_; rintro e w2 ht; obtain ⟨rfl, x2, x3⟩ := twox_wr y1 y2 y3 y4 y5 y6 ht hBs; have X1 := Lib.hid x2; have Z1 := Lib.hid x3; have b1 := (show w2.cell? ⟨w.heap.size, 1, none⟩ = some (.int .i64 num) from by obtain ⟨_, _, _, _, _, _, q5, _⟩ := x2; exact obj_cell q5 1); have b2 := (show w2.cell? ⟨w.heap.size, 2, none⟩ = some (.int .u64 (n : Int)) from by obtain ⟨_, _, _, _, _, _, q5, _⟩ := x2; exact obj_cell q5 2); clear x2 x3 ht y1 y2 y3 y4 y5 y6))
      | (go_at_call 28; (obtain ⟨S1, T1, y1, y2, y3, y4, y5, y6⟩ := X1.out; refine (HK.out _ _ y2).mono ?_; rintro e w3 ht; obtain ⟨rfl, x2, x3⟩ := twox_rf y1 y2 y3 y4 y5 y6 ht (Nat.le_trans hBs Z1.out.size); have X2 := Lib.hid x2; have Z2 := Lib.hid x3; have c1 := (show w3.cell? ⟨w.heap.size, 1, none⟩ = some (.int .i64 num) from by obtain ⟨_, _, _, _, _, _, q5, _⟩ := x2; exact obj_cell q5 1); have c2 := (show w3.cell? ⟨w.heap.size, 2, none⟩ = some (.int .u64 (n : Int)) from by obtain ⟨_, _, _, _, _, _, q5, _⟩ := x2; exact obj_cell q5 2); clear x2 x3 ht y1 y2 y3 y4 y5 y6)))
  go_wp2
  go_ret
  exact ⟨by cases r <;> rfl, _, m2, gs2, X2.out.two, HL2.out, ((HB0.out.mono hB).drew.trans Z1.out).trans Z2.out, HG.out.1, HG.out.2.1, HG.out.2.2⟩
end Go.Proofs.Ytnhaeapkncnimaa

/- Text on both. Conditions: those that each theorem names. -/
namespace Go.Proofs.Ytnhaeapkncnimaa
open Go.RowKit
open Go.Lib (uvarint)
set_option linter.unusedVariables false
set_option maxRecDepth 100000

set_option maxHeartbeats 4000000 in
theorem do_text {B p q : Nat} {s : Ws} {m : Rs} {gs : List (List (List UInt8))} {w : World} (h : Two B w p q s m) (hl : Like s m gs) (hB : B ≤ w.heap.size) (hb : s.raw.length + s.room ≤ 1000000) (ho : s.op.length ≤ 1000) (hf : s.fs.length ≤ 1000) (num : Int) (n : Nat) (hn : n < 18446744073709551616) (t : List UInt8) (ht : t.length ≤ 300) :
    Calls Try.prog 10 #[.pointer (some ⟨p, 0, none⟩), .pointer (some ⟨q, 0, none⟩), .agg #[.int .i64 2, .int .i64 num, .int .u64 (n : Int), .string (strOf t)]] w (Did B w p q s) := by
  obtain ⟨u, hs⟩ : ∃ u, u = strOf t := ⟨_, rfl⟩
  rw [← hs]
  have hb0 : Below w.heap.size w (w.alloc (.cells #[.int .i64 2, .int .i64 num, .int .u64 (n : Int), .string u] 32)) := (Below.refl _ w).alloc (Nat.le_refl _) _
  have X0 : Hid (TwoX B (w.alloc (.cells #[.int .i64 2, .int .i64 num, .int .u64 (n : Int), .string u] 32)).drew p q w.heap.size _ s m) := Lib.hid (by
    obtain ⟨S, T, h1, h2, h3, h4, h5, h6⟩ := two_box h (.cells #[.int .i64 2, .int .i64 num, .int .u64 (n : Int), .string u] 32)
    exact ⟨S, T, h1.bel (drew_below _ 1), h2.bel (drew_below _ 1), h3, h4, h5, h6⟩)
  obtain ⟨r, hr⟩ : ∃ r, r = rightB num 2 := ⟨_, rfl⟩
  obtain ⟨m2, gs2, hl2, hk⟩ := like_field (q := q) (B := B) hl num 2 (uvarint t.length ++ t) 0 u hb ho (by have := Lib.uvarint_length64 (x := t.length) (by omega); rw [List.length_append]; omega) (fun w hr => (by have := rbytes_2 num 0 t w hr (by omega); rw [← hs] at this; exact this))
  rw [← hr] at hk
  have HW : Hid (∀ S w', Wr B w' p S true s → Calls Try.prog 17 #[.pointer (some ⟨p, 0, none⟩), .int .i64 num, .string u] w' (WrTo B w' p S true (s.field num 2 (uvarint t.length ++ t)) (.bool r))) :=
    Lib.hid (fun S w' h => by rw [hr]; exact (by have := wtext_any h num t (by omega); rw [← hs] at this; exact this))
  have hg := field_grow s num 2 (uvarint t.length ++ t) (by have := Lib.uvarint_length64 (x := t.length) (by omega); rw [List.length_append]; omega)
  have HK := Lib.hid hk
  have HL2 := Lib.hid hl2
  have HG := Lib.hid hg
  have HB0 := Lib.hid hb0
  clear hs
  clear h hl hk hl2 hg hb0 hr
  go_enter Try.func10, Try.ntmps10
  go_wp2
  have hBs : B ≤ (w.alloc (.cells #[.int .i64 2, .int .i64 num, .int .u64 (n : Int), .string u] 32)).heap.size := Nat.le_trans hB HB0.out.size
  have X00 := X0.out
  have b01 : (w.alloc (.cells #[.int .i64 2, .int .i64 num, .int .u64 (n : Int), .string u] 32)).drew.cell? ⟨w.heap.size, 1, none⟩ = some (.int .i64 num) := by obtain ⟨_, _, _, _, _, _, q5, _⟩ := X00; exact obj_cell q5 1
  have b02 : (w.alloc (.cells #[.int .i64 2, .int .i64 num, .int .u64 (n : Int), .string u] 32)).drew.cell? ⟨w.heap.size, 3, none⟩ = some (.string u) := by obtain ⟨_, _, _, _, _, _, q5, _⟩ := X00; exact obj_cell q5 3
  clear X00
  go_region_held3 (fun w' => w'.cell? ⟨w.heap.size, 1, none⟩ = some (.int .i64 num) ∧ w'.cell? ⟨w.heap.size, 3, none⟩ = some (.string u))
    (first | exact ⟨c1, c2⟩ | exact ⟨b1, b2⟩ | exact ⟨b01, b02⟩)
    (first
      | (go_at_call 17; (obtain ⟨S1, T1, y1, y2, y3, y4, y5, y6⟩ := X0.out; refine (HW.out _ _ y1).mono ?_; rintro e w2 ht; obtain ⟨rfl, x2, x3⟩ := twox_wr y1 y2 y3 y4 y5 y6 ht hBs; have X1 := Lib.hid x2; have Z1 := Lib.hid x3; have b1 := (show w2.cell? ⟨w.heap.size, 1, none⟩ = some (.int .i64 num) from by obtain ⟨_, _, _, _, _, _, q5, _⟩ := x2; exact obj_cell q5 1); have b2 := (show w2.cell? ⟨w.heap.size, 3, none⟩ = some (.string u) from by obtain ⟨_, _, _, _, _, _, q5, _⟩ := x2; exact obj_cell q5 3); clear x2 x3 ht y1 y2 y3 y4 y5 y6))
      | (go_at_call 28; (obtain ⟨S1, T1, y1, y2, y3, y4, y5, y6⟩ := X1.out; refine (HK.out _ _ y2).mono ?_; rintro e w3 ht; obtain ⟨rfl, x2, x3⟩ := twox_rf y1 y2 y3 y4 y5 y6 ht (Nat.le_trans hBs Z1.out.size); have X2 := Lib.hid x2; have Z2 := Lib.hid x3; have c1 := (show w3.cell? ⟨w.heap.size, 1, none⟩ = some (.int .i64 num) from by obtain ⟨_, _, _, _, _, _, q5, _⟩ := x2; exact obj_cell q5 1); have c2 := (show w3.cell? ⟨w.heap.size, 3, none⟩ = some (.string u) from by obtain ⟨_, _, _, _, _, _, q5, _⟩ := x2; exact obj_cell q5 3); clear x2 x3 ht y1 y2 y3 y4 y5 y6)))
  go_wp2
  go_ret
  exact ⟨by cases r <;> rfl, _, m2, gs2, X2.out.two, HL2.out, ((HB0.out.mono hB).drew.trans Z1.out).trans Z2.out, HG.out.1, HG.out.2.1, HG.out.2.2⟩
end Go.Proofs.Ytnhaeapkncnimaa

/- Varint on both. Conditions: those that each theorem names. -/
namespace Go.Proofs.Ytnhaeapkncnimaa
open Go.RowKit
open Go.Lib (uvarint)
set_option linter.unusedVariables false
set_option maxRecDepth 100000

set_option maxHeartbeats 4000000 in
theorem do_varint {B p q : Nat} {s : Ws} {m : Rs} {gs : List (List (List UInt8))} {w : World} (h : Two B w p q s m) (hl : Like s m gs) (hB : B ≤ w.heap.size) (hb : s.raw.length + s.room ≤ 1000000) (ho : s.op.length ≤ 1000) (hf : s.fs.length ≤ 1000) (num : Int) (n : Nat) (hn : n < 18446744073709551616) (t : ByteArray) :
    Calls Try.prog 10 #[.pointer (some ⟨p, 0, none⟩), .pointer (some ⟨q, 0, none⟩), .agg #[.int .i64 0, .int .i64 num, .int .u64 (n : Int), .string t]] w (Did B w p q s) := by
  have hb0 : Below w.heap.size w (w.alloc (.cells #[.int .i64 0, .int .i64 num, .int .u64 (n : Int), .string t] 32)) := (Below.refl _ w).alloc (Nat.le_refl _) _
  have X0 : Hid (TwoX B (w.alloc (.cells #[.int .i64 0, .int .i64 num, .int .u64 (n : Int), .string t] 32)).drew p q w.heap.size _ s m) := Lib.hid (by
    obtain ⟨S, T, h1, h2, h3, h4, h5, h6⟩ := two_box h (.cells #[.int .i64 0, .int .i64 num, .int .u64 (n : Int), .string t] 32)
    exact ⟨S, T, h1.bel (drew_below _ 1), h2.bel (drew_below _ 1), h3, h4, h5, h6⟩)
  obtain ⟨r, hr⟩ : ∃ r, r = rightB num 0 := ⟨_, rfl⟩
  obtain ⟨m2, gs2, hl2, hk⟩ := like_field (q := q) (B := B) hl num 0 (uvarint n) (n : Int) ⟨#[]⟩ hb ho (by have := Lib.uvarint_length64 hn; omega) (fun w hr => rbytes_0 num n _ w hr hn)
  rw [← hr] at hk
  have HW : Hid (∀ S w', Wr B w' p S true s → Calls Try.prog 24 #[.pointer (some ⟨p, 0, none⟩), .int .i64 num, .int .u64 (n : Int)] w' (WrTo B w' p S true (s.field num 0 (uvarint n)) (.bool r))) :=
    Lib.hid (fun S w' h => by rw [hr]; exact wvarint_any h num n hn (by omega))
  have hg := field_grow s num 0 (uvarint n) (by have := Lib.uvarint_length64 hn; omega)
  have HK := Lib.hid hk
  have HL2 := Lib.hid hl2
  have HG := Lib.hid hg
  have HB0 := Lib.hid hb0
  clear h hl hk hl2 hg hb0 hr
  go_enter Try.func10, Try.ntmps10
  go_wp2
  have hBs : B ≤ (w.alloc (.cells #[.int .i64 0, .int .i64 num, .int .u64 (n : Int), .string t] 32)).heap.size := Nat.le_trans hB HB0.out.size
  have X00 := X0.out
  have b01 : (w.alloc (.cells #[.int .i64 0, .int .i64 num, .int .u64 (n : Int), .string t] 32)).drew.cell? ⟨w.heap.size, 1, none⟩ = some (.int .i64 num) := by obtain ⟨_, _, _, _, _, _, q5, _⟩ := X00; exact obj_cell q5 1
  have b02 : (w.alloc (.cells #[.int .i64 0, .int .i64 num, .int .u64 (n : Int), .string t] 32)).drew.cell? ⟨w.heap.size, 2, none⟩ = some (.int .u64 (n : Int)) := by obtain ⟨_, _, _, _, _, _, q5, _⟩ := X00; exact obj_cell q5 2
  clear X00
  go_region_held3 (fun w' => w'.cell? ⟨w.heap.size, 1, none⟩ = some (.int .i64 num) ∧ w'.cell? ⟨w.heap.size, 2, none⟩ = some (.int .u64 (n : Int)))
    (first | exact ⟨c1, c2⟩ | exact ⟨b1, b2⟩ | exact ⟨b01, b02⟩)
    (first
      | (go_at_call 24; (obtain ⟨S1, T1, y1, y2, y3, y4, y5, y6⟩ := X0.out; refine (HW.out _ _ y1).mono ?_; rintro e w2 ht; obtain ⟨rfl, x2, x3⟩ := twox_wr y1 y2 y3 y4 y5 y6 ht hBs; have X1 := Lib.hid x2; have Z1 := Lib.hid x3; have b1 := (show w2.cell? ⟨w.heap.size, 1, none⟩ = some (.int .i64 num) from by obtain ⟨_, _, _, _, _, _, q5, _⟩ := x2; exact obj_cell q5 1); have b2 := (show w2.cell? ⟨w.heap.size, 2, none⟩ = some (.int .u64 (n : Int)) from by obtain ⟨_, _, _, _, _, _, q5, _⟩ := x2; exact obj_cell q5 2); clear x2 x3 ht y1 y2 y3 y4 y5 y6))
      | (go_at_call 28; (obtain ⟨S1, T1, y1, y2, y3, y4, y5, y6⟩ := X1.out; refine (HK.out _ _ y2).mono ?_; rintro e w3 ht; obtain ⟨rfl, x2, x3⟩ := twox_rf y1 y2 y3 y4 y5 y6 ht (Nat.le_trans hBs Z1.out.size); have X2 := Lib.hid x2; have Z2 := Lib.hid x3; have c1 := (show w3.cell? ⟨w.heap.size, 1, none⟩ = some (.int .i64 num) from by obtain ⟨_, _, _, _, _, _, q5, _⟩ := x2; exact obj_cell q5 1); have c2 := (show w3.cell? ⟨w.heap.size, 2, none⟩ = some (.int .u64 (n : Int)) from by obtain ⟨_, _, _, _, _, _, q5, _⟩ := x2; exact obj_cell q5 2); clear x2 x3 ht y1 y2 y3 y4 y5 y6)))
  go_wp2
  go_ret
  exact ⟨by cases r <;> rfl, _, m2, gs2, X2.out.two, HL2.out, ((HB0.out.mono hB).drew.trans Z1.out).trans Z2.out, HG.out.1, HG.out.2.1, HG.out.2.2⟩
end Go.Proofs.Ytnhaeapkncnimaa
