/- Several texts in one: EmF. What each proves, and its conditions, stands at its own head. -/
import Derived.Test.YtalbiieagcandaaPkR10
import Derived.Test.YtalbiieagcandaaPkR23
import Derived.Test.YtalbiieagcandaaPkR13
import Derived.Test.YtalbiieagcandaaPkR1
/- The calls that write a field. Conditions: those that each theorem names. -/
namespace Go.Proofs.Ytalbiieagcandaa
open Go.RowKit
open Go.Lib (uvarint)
set_option linter.unusedVariables false
set_option maxRecDepth 100000

theorem pcs_one {w : World} {S : Nat → Prop} (hS : ∀ k, S k → k < w.heap.size) {A : Option Addr} {n c : Nat} {bs : List UInt8} (t : TypeId) (hb : Bs w A c bs) (hn : n = bs.length) (ha : ∀ a, A = some a → ¬ S a.block ∧ a.block < w.heap.size) :
    Pcs (w.alloc (.cells #[.slice A n c] t)) S (some ⟨w.heap.size, 0, none⟩) 1 [bs] := by
  subst hn
  refine ⟨[.slice A bs.length c], rfl, ⟨Nat.le_refl _, by decide, (fun h => by cases h), fun j u hj => ⟨_, _, rfl, ?_⟩⟩, fun a e => by cases e; exact ⟨fun h => Nat.lt_irrefl _ (hS _ h), by simp⟩, fun j v p hv hp => ?_⟩
  · rw [obj_cell (heap_alloc_new w _), Nat.zero_add]; simpa using hj
  · cases j with
    | zero =>
      simp at hv hp
      subst hv hp
      exact ⟨A, c, rfl, hb.alloc _, fun a e => ⟨(ha a e).1, by have := (ha a e).2; simp; omega⟩⟩
    | succ j => simp at hv
theorem pcs_two {w : World} {S : Nat → Prop} (hS : ∀ k, S k → k < w.heap.size) {A A2 : Option Addr} {n c n2 c2 : Nat} {bs bs2 : List UInt8} (t : TypeId) (hb : Bs w A c bs) (hn : n = bs.length) (ha : ∀ a, A = some a → ¬ S a.block ∧ a.block < w.heap.size)
    (hb2 : Bs w A2 c2 bs2) (hn2 : n2 = bs2.length) (ha2 : ∀ a, A2 = some a → ¬ S a.block ∧ a.block < w.heap.size) :
    Pcs (w.alloc (.cells #[.slice A n c, .slice A2 n2 c2] t)) S (some ⟨w.heap.size, 0, none⟩) 2 [bs, bs2] := by
  subst hn hn2
  refine ⟨[.slice A bs.length c, .slice A2 bs2.length c2], rfl, ⟨Nat.le_refl _, by decide, (fun h => by cases h), fun j u hj => ⟨_, _, rfl, ?_⟩⟩, fun a e => by cases e; exact ⟨fun h => Nat.lt_irrefl _ (hS _ h), by simp⟩, fun j v p hv hp => ?_⟩
  · rw [obj_cell (heap_alloc_new w _), Nat.zero_add]; simpa using hj
  · match j, hv, hp with
    | 0, hv, hp =>
      simp at hv hp
      subst hv hp
      exact ⟨A, c, rfl, hb.alloc _, fun a e => ⟨(ha a e).1, by have := (ha a e).2; simp; omega⟩⟩
    | 1, hv, hp =>
      simp at hv hp
      subst hv hp
      exact ⟨A2, c2, rfl, hb2.alloc _, fun a e => ⟨(ha2 a e).1, by have := (ha2 a e).2; simp; omega⟩⟩
    | j + 2, hv, hp => simp at hv
theorem Pcs.touch {w w' : World} {S S' T : Nat → Prop} {A : Option Addr} {cap : Nat} {pcs : List (List UInt8)} (h : Pcs w S A cap pcs) (ht : Touch T w w') (hT : ∀ k, T k → S k) (hS : ∀ k, S' k → S k ∨ w.heap.size ≤ k) : Pcs w' S' A cap pcs := by
  obtain ⟨vs, h1, h2, h3, h4⟩ := h
  have hk : ∀ b, ¬ S b ∧ b < w.heap.size → w'.heap[b]? = w.heap[b]? := fun b hb => ht.block b hb.2 (fun e => hb.1 (hT b e))
  have hn : ∀ b, ¬ S b ∧ b < w.heap.size → ¬ S' b ∧ b < w'.heap.size := fun b hb => ⟨fun e => by rcases hS b e with e | e; exact hb.1 e; omega, Nat.lt_of_lt_of_le hb.2 ht.size⟩
  refine ⟨vs, h1, ⟨h2.le, h2.max, h2.nil, fun j u hj => ?_⟩, fun a e => hn _ (h3 a e), fun j v p hv hp => ?_⟩
  · obtain ⟨b, off, e, hc⟩ := h2.at_ j u hj
    exact ⟨b, off, e, (World.cell?_of_block (a := ⟨b, off + j, none⟩) (hk b (h3 _ e))).trans hc⟩
  · obtain ⟨Aj, cj, e, hb, ha⟩ := h4 j v p hv hp
    exact ⟨Aj, cj, e, Bs.heap hb (fun a ea => hk _ (ha a ea)), fun a ea => hn _ (ha a ea)⟩

theorem plain_len (s : Ws) (bs : List UInt8) : (s.plain bs).raw.length = s.raw.length + bs.length := by simp [Ws.plain]
/-- What a field makes of a writer. -/
def Ws.field (s : Ws) (num wire : Int) (bs : List UInt8) : Ws := if rightB num wire = true then s.plain (uvarint (tagN num wire) ++ bs) else s
theorem tag_len (num wire : Int) : (uvarint (tagN num wire)).length ≤ 10 := Lib.uvarint_length64 (by have := tagN_lt num wire; omega)

set_option maxHeartbeats 1000000 in
theorem wfield_any {B p : Nat} {S : Nat → Prop} {s : Ws} {w : World} (h : Wr B w p S true s) (num wire : Int) {A : Option Addr} {n cap : Nat} {pcs : List (List UInt8)} (hp : Pcs w S A cap pcs) (hn : n = pcs.length) (hb : s.raw.length + (10 + pcs.flatten.length) ≤ 140737488355328) :
    Calls Try.prog 56 #[.pointer (some ⟨p, 0, none⟩), .int .i64 num, .int .i64 wire, .slice A n cap] w (WrTo B w p S true (s.field num wire pcs.flatten) (.bool (rightB num wire))) := by
  have HO := Lib.hid (of_any num wire)
  have hlt := tagN_lt num wire
  have hlen := tag_len num wire
  cases hr : rightB num wire with
  | false =>
    rw [hr] at HO
    have HE : Hid (s.field num wire pcs.flatten = s) := by show _ = _; rw [Ws.field, hr, if_neg (by simp)]
    have HW := Lib.hid h
    clear h hp hn hb hlt hlen hr
    go_enter Try.func56, Try.ntmps56
    go_wp2_with (go_at_call 72; refine (HO.out _).mono ?_; rintro e w' ⟨rfl, rfl⟩)
    go_ret
    rw [HE.out]
    exact WrTo.same HW.out 0
  | true =>
    rw [hr] at HO
    have HE : Hid (s.field num wire pcs.flatten = s.plain (uvarint (tagN num wire) ++ pcs.flatten)) := by show _ = _; rw [Ws.field, hr, if_pos rfl]
    have HW := Lib.hid h
    have HP := Lib.hid hp
    have HLT := Lib.hid hlt
    have HN := Lib.hid hn
    generalize tagN num wire = tg at *
    clear h hp hlt hr hn
    go_enter Try.func56, Try.ntmps56
    go_wp2_with (first
      | (go_at_call 72; refine (HO.out _).mono ?_; rintro e w' ⟨rfl, rfl⟩)
      | (go_at_call 57; refine (put_new _ _ (by have := HLT.out; omega)).mono ?_; rintro e w1 ⟨A1, cap1, rfl, hB1, hb1, ha1⟩; have HB1 := Lib.hid hB1; have HBE1 := Lib.hid hb1; have HA1 := Lib.hid ha1; clear hB1 hb1 ha1)
      | (go_at_call 73; have hw1 := (HW.out.bel HBE1.out).bel ((Below.refl _ _).alloc (Nat.le_refl _) (.cells #[.slice A1 (uvarint tg).length cap1] 29)); have hq := plain_any hw1 (pcs_one (fun k hk => ((HW.out.bel HBE1.out).lt k hk).2) _ HB1.out rfl (fun a ha => ⟨fun hs => by have := (HA1.out a ha).1; have := (HW.out.lt _ hs).2; omega, (HA1.out a ha).2⟩)) rfl (by simp; omega); refine hq.mono ?_; clear hq; rintro e w2 ⟨rfl, S2, hw2, hs2, ht2⟩; have hp2 := (HP.out.touch (Touch.of_below S (HBE1.out.alloc HBE1.out.size _)) (fun _ h => h) (fun _ h => .inl h)).touch ht2 (fun _ h => h) hs2; have HP2 := Lib.hid hp2; have HW2 := Lib.hid hw2; have hs3 : ∀ k, S2 k → S k ∨ w.heap.size ≤ k := fun k hk => (hs2 k hk).imp id (fun h => by have := (HBE1.out.alloc HBE1.out.size (.cells #[.slice A1 (uvarint tg).length cap1] 29)).size; omega); have HS3 := Lib.hid hs3; have ht3 := (Touch.of_below S (HBE1.out.alloc HBE1.out.size (.cells #[.slice A1 (uvarint tg).length cap1] 29))).trans ht2 (fun _ h => .inl h); have HT3 := Lib.hid ht3; clear hw1 hw2 hs2 ht2 hp2 hs3 ht3 HBE1 HB1 HA1)
      | (go_at_call 73; refine (plain_any HW2.out HP2.out HN.out (by rw [plain_len]; simp only [List.flatten_cons, List.flatten_nil, List.append_nil]; omega)).mono ?_; rintro e w4 ⟨rfl, S4, hw4, hs4, ht4⟩))
    go_ret
    have e1 : (s.plain [uvarint tg].flatten).plain pcs.flatten = s.plain (uvarint tg ++ pcs.flatten) := by simp [Ws.plain]
    rw [HE.out]
    rw [e1] at hw4
    refine ⟨rfl, S4, hw4, fun k hk => ?_, HT3.out.trans ht4 HS3.out⟩
    rcases hs4 k hk with h | h
    · exact HS3.out k h
    · exact .inr (by have := HT3.out.size; omega)
theorem fits_field {B p : Nat} {S : Nat → Prop} {made : Bool} {s : Ws} {w w1 : World} (h : Wr B w p S made s) (hb : Below w.heap.size w w1) {s' : Ws} {v : Value} {e : Ending} {w' : World} (o : Obj) (ht : WrTo B (w1.alloc o) p S made s' v e w') : WrTo B w p S made s' v e w' := by
  obtain ⟨he, S', h1, h2, h3⟩ := ht
  have hba := hb.alloc hb.size o
  refine ⟨he, S', h1, fun k hk => (h2 k hk).imp id (fun h => by have := hba.size; omega), (Touch.of_below S hba).trans h3 (fun _ h => .inl h)⟩
theorem wvarint_any {B p : Nat} {S : Nat → Prop} {s : Ws} {w : World} (h : Wr B w p S true s) (num : Int) (n : Nat) (hn : n < 18446744073709551616) (hb : s.raw.length ≤ 70368744177664) :
    Calls Try.prog 38 #[.pointer (some ⟨p, 0, none⟩), .int .i64 num, .int .u64 (n : Int)] w (WrTo B w p S true (s.field num 0 (uvarint n)) (.bool (rightB num 0))) := by
  have hlen := Lib.uvarint_length64 hn
  have HW := Lib.hid h
  clear h
  go_enter Try.func38, Try.ntmps38
  go_wp2_with (first
    | (go_at_call 57; refine (put_new _ _ hn).mono ?_; rintro e w1 ⟨A1, cap1, rfl, hB1, hb1, ha1⟩; have HB1 := Lib.hid hB1; have HBE1 := Lib.hid hb1; have HA1 := Lib.hid ha1; clear hB1 hb1 ha1)
    | (go_at_call 56; have hq := wfield_any ((HW.out.bel HBE1.out).bel ((Below.refl _ _).alloc (Nat.le_refl _) (.cells #[.slice A1 (uvarint n).length cap1] 29))) num 0 (pcs_one (fun k hk => ((HW.out.bel HBE1.out).lt k hk).2) _ HB1.out rfl (fun a ha => ⟨fun hs => by have := (HA1.out a ha).1; have := (HW.out.lt _ hs).2; omega, (HA1.out a ha).2⟩)) rfl (by simp; omega); refine hq.mono ?_; clear hq; intro e w2 hto; have hto2 := fits_field HW.out HBE1.out _ hto; obtain ⟨rfl, hrest⟩ := hto2; have HR := Lib.hid hrest; clear hto hrest))
  go_ret
  have q := HR.out
  simp only [List.flatten_cons, List.flatten_nil, List.append_nil] at q
  exact ⟨rfl, q⟩
theorem wfixed8_any {B p : Nat} {S : Nat → Prop} {s : Ws} {w : World} (h : Wr B w p S true s) (num : Int) (n : Nat) (hn : n < 18446744073709551616) (hb : s.raw.length ≤ 70368744177664) :
    Calls Try.prog 39 #[.pointer (some ⟨p, 0, none⟩), .int .i64 num, .int .u64 (n : Int)] w (WrTo B w p S true (s.field num 1 (le 8 n)) (.bool (rightB num 1))) := by
  have hlen : (le 8 n).length ≤ 8 := Nat.le_of_eq (le_length 8 n)
  obtain ⟨bs, hbs⟩ : ∃ bs, bs = le 8 n := ⟨_, rfl⟩
  have HP := Lib.hid (fun w => put8_new n w hn)
  rw [← hbs] at hlen HP ⊢
  clear hbs
  have HW := Lib.hid h
  clear h
  go_enter Try.func39, Try.ntmps39
  go_wp2_with (first
    | (go_at_call 58; refine (HP.out _).mono ?_; rintro e w1 ⟨A1, cap1, rfl, hB1, hb1, ha1⟩; have HB1 := Lib.hid hB1; have HBE1 := Lib.hid hb1; have HA1 := Lib.hid ha1; clear hB1 hb1 ha1)
    | (go_at_call 56; have hq := wfield_any ((HW.out.bel HBE1.out).bel ((Below.refl _ _).alloc (Nat.le_refl _) (.cells #[.slice A1 (bs).length cap1] 29))) num 1 (pcs_one (fun k hk => ((HW.out.bel HBE1.out).lt k hk).2) _ HB1.out rfl (fun a ha => ⟨fun hs => by have := (HA1.out a ha).1; have := (HW.out.lt _ hs).2; omega, (HA1.out a ha).2⟩)) rfl (by simp; omega); refine hq.mono ?_; clear hq; intro e w2 hto; have hto2 := fits_field HW.out HBE1.out _ hto; obtain ⟨rfl, hrest⟩ := hto2; have HR := Lib.hid hrest; clear hto hrest))
  go_ret
  have q := HR.out
  simp only [List.flatten_cons, List.flatten_nil, List.append_nil] at q
  exact ⟨rfl, q⟩
theorem wfixed4_any {B p : Nat} {S : Nat → Prop} {s : Ws} {w : World} (h : Wr B w p S true s) (num : Int) (n : Nat) (hn : n < 4294967296) (hb : s.raw.length ≤ 70368744177664) :
    Calls Try.prog 41 #[.pointer (some ⟨p, 0, none⟩), .int .i64 num, .int .u32 (n : Int)] w (WrTo B w p S true (s.field num 5 (le 4 n)) (.bool (rightB num 5))) := by
  have hlen : (le 4 n).length ≤ 4 := Nat.le_of_eq (le_length 4 n)
  obtain ⟨bs, hbs⟩ : ∃ bs, bs = le 4 n := ⟨_, rfl⟩
  have HP := Lib.hid (fun w => put4_new n w hn)
  rw [← hbs] at hlen HP ⊢
  clear hbs
  have HW := Lib.hid h
  clear h
  go_enter Try.func41, Try.ntmps41
  go_wp2_with (first
    | (go_at_call 59; refine (HP.out _).mono ?_; rintro e w1 ⟨A1, cap1, rfl, hB1, hb1, ha1⟩; have HB1 := Lib.hid hB1; have HBE1 := Lib.hid hb1; have HA1 := Lib.hid ha1; clear hB1 hb1 ha1)
    | (go_at_call 56; have hq := wfield_any ((HW.out.bel HBE1.out).bel ((Below.refl _ _).alloc (Nat.le_refl _) (.cells #[.slice A1 (bs).length cap1] 29))) num 5 (pcs_one (fun k hk => ((HW.out.bel HBE1.out).lt k hk).2) _ HB1.out rfl (fun a ha => ⟨fun hs => by have := (HA1.out a ha).1; have := (HW.out.lt _ hs).2; omega, (HA1.out a ha).2⟩)) rfl (by simp; omega); refine hq.mono ?_; clear hq; intro e w2 hto; have hto2 := fits_field HW.out HBE1.out _ hto; obtain ⟨rfl, hrest⟩ := hto2; have HR := Lib.hid hrest; clear hto hrest))
  go_ret
  have q := HR.out
  simp only [List.flatten_cons, List.flatten_nil, List.append_nil] at q
  exact ⟨rfl, q⟩
end Go.Proofs.Ytalbiieagcandaa
