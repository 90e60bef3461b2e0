/- Several texts in one: EmF, EmT, NewB, EmH, EmO. What each proves, and its conditions, stands at its own head. -/
import Derived.Test.YtloheacncefkgaaGreatDoorPkEU8
import Derived.Test.YtloheacncefkgaaGreatDoorPkEU30
import Derived.Test.YtloheacncefkgaaGreatDoorPkEU2
import Derived.Test.YtloheacncefkgaaGreatDoorPkEU0
import Derived.Test.YtloheacncefkgaaGreatDoorPkEU19
import Derived.Test.YtloheacncefkgaaGreatDoorPkEU7
import Derived.Test.YtloheacncefkgaaGreatDoorPkEU28
import Derived.Deep.CutRange
import Derived.Deep.RegionLaw
import Derived.Deep.RegionHeld3
import Derived.Maps.AppendAt
/- The calls that write a field. Conditions: those that each theorem names. -/
namespace Go.Proofs.YtloheacncefkgaaGreatDoor
open Go.RowKit
open Go.Lib (uvarint)
set_option linter.unusedVariables false
set_option maxRecDepth 100000

theorem pcs_one {w : World} {S : Nat → Prop} (hS : ∀ k, S k → k < w.heap.size) {A : Option Addr} {n c : Nat} {bs : List UInt8} (t : TypeId) (hb : Bs w A c bs) (hn : n = bs.length) (ha : ∀ a, A = some a → ¬ S a.block ∧ a.block < w.heap.size) :
 Pcs (w.alloc (.cells #[.slice A n c] t)) S (some ⟨w.heap.size, 0, none⟩) 1 [bs] := by
 subst hn
 refine ⟨[.slice A bs.length c], rfl, ⟨Nat.le_refl _, by decide, (fun h => by cases h), fun j u hj => ⟨_, _, rfl, ?_⟩⟩, fun a e => by cases e; exact ⟨fun h => Nat.lt_irrefl _ (hS _ h), by simp⟩, fun j v p hv hp => ?_⟩
 ·rw [obj_cell (heap_alloc_new w _), Nat.zero_add]; simpa using hj
 ·cases j with
  | zero =>
    simp at hv hp
    subst hv hp
    exact ⟨A, c, rfl, hb.alloc _, fun a e => ⟨(ha a e).1, by have := (ha a e).2; simp; omega⟩⟩
  | succ j => simp at hv
theorem pcs_two {w : World} {S : Nat → Prop} (hS : ∀ k, S k → k < w.heap.size) {A A2 : Option Addr} {n c n2 c2 : Nat} {bs bs2 : List UInt8} (t : TypeId) (hb : Bs w A c bs) (hn : n = bs.length) (ha : ∀ a, A = some a → ¬ S a.block ∧ a.block < w.heap.size)
 (hb2 : Bs w A2 c2 bs2) (hn2 : n2 = bs2.length) (ha2 : ∀ a, A2 = some a → ¬ S a.block ∧ a.block < w.heap.size) :
 Pcs (w.alloc (.cells #[.slice A n c, .slice A2 n2 c2] t)) S (some ⟨w.heap.size, 0, none⟩) 2 [bs, bs2] := by
 subst hn hn2
 refine ⟨[.slice A bs.length c, .slice A2 bs2.length c2], rfl, ⟨Nat.le_refl _, by decide, (fun h => by cases h), fun j u hj => ⟨_, _, rfl, ?_⟩⟩, fun a e => by cases e; exact ⟨fun h => Nat.lt_irrefl _ (hS _ h), by simp⟩, fun j v p hv hp => ?_⟩
 ·rw [obj_cell (heap_alloc_new w _), Nat.zero_add]; simpa using hj
 ·match j, hv, hp with
  | 0, hv, hp =>
    simp at hv hp
    subst hv hp
    exact ⟨A, c, rfl, hb.alloc _, fun a e => ⟨(ha a e).1, by have := (ha a e).2; simp; omega⟩⟩
  | 1, hv, hp =>
    simp at hv hp
    subst hv hp
    exact ⟨A2, c2, rfl, hb2.alloc _, fun a e => ⟨(ha2 a e).1, by have := (ha2 a e).2; simp; omega⟩⟩
  | j + 2, hv, hp => simp at hv
theorem Pcs.touch {w w' : World} {S S' T : Nat → Prop} {A : Option Addr} {cap : Nat} {pcs : List (List UInt8)} (h : Pcs w S A cap pcs) (ht : Touch T w w') (hT : ∀ k, T k → S k) (hS : ∀ k, S' k → S k ∨ w.heap.size ≤ k) : Pcs w' S' A cap pcs := by
 obtain ⟨vs, h1, h2, h3, h4⟩ := h
 have hk : ∀ b, ¬ S b ∧ b < w.heap.size → w'.heap[b]? = w.heap[b]? := fun b hb => ht.block b hb.2 (fun e => hb.1 (hT b e))
 have hn : ∀ b, ¬ S b ∧ b < w.heap.size → ¬ S' b ∧ b < w'.heap.size := fun b hb => ⟨fun e => by rcases hS b e with e | e; exact hb.1 e; omega, Nat.lt_of_lt_of_le hb.2 ht.size⟩
 refine ⟨vs, h1, ⟨h2.le, h2.max, h2.nil, fun j u hj => ?_⟩, fun a e => hn _ (h3 a e), fun j v p hv hp => ?_⟩
 ·obtain ⟨b, off, e, hc⟩ := h2.at_ j u hj
  exact ⟨b, off, e, (World.cell?_of_block (a := ⟨b, off + j, none⟩) (hk b (h3 _ e))).trans hc⟩
 ·obtain ⟨Aj, cj, e, hb, ha⟩ := h4 j v p hv hp
  exact ⟨Aj, cj, e, Bs.heap hb (fun a ea => hk _ (ha a ea)), fun a ea => hn _ (ha a ea)⟩

theorem plain_len (s : Ws) (bs : List UInt8) : (s.plain bs).raw.length = s.raw.length + bs.length := by simp [Ws.plain]
/-- What a field makes of a writer. -/
def Ws.field (s : Ws) (num wire : Int) (bs : List UInt8) : Ws := if rightB num wire = true then s.plain (uvarint (tagN num wire) ++ bs) else s
theorem tag_len (num wire : Int) : (uvarint (tagN num wire)).length ≤ 10 := Lib.uvarint_length64 (by have := tagN_lt num wire; omega)

set_option maxHeartbeats 1000000 in
theorem wfield_any {B p : Nat} {S : Nat → Prop} {s : Ws} {w : World} (h : Wr B w p S true s) (num wire : Int) {A : Option Addr} {n cap : Nat} {pcs : List (List UInt8)} (hp : Pcs w S A cap pcs) (hn : n = pcs.length) (hb : s.raw.length + (10 + pcs.flatten.length) ≤ 140737488355328) :
 Calls Tryz.prog 115 #[.pointer (some ⟨p, 0, none⟩), .int .i64 num, .int .i64 wire, .slice A n cap] w (WrTo B w p S true (s.field num wire pcs.flatten) (.bool (rightB num wire))) := by
 have HO := Lib.hid (of_any num wire)
 have hlt := tagN_lt num wire
 have hlen := tag_len num wire
 cases hr : rightB num wire with
 | false =>
   rw [hr] at HO
   have HE : Hid (s.field num wire pcs.flatten = s) := by show _ = _; rw [Ws.field, hr, if_neg (by simp)]
   have HW := Lib.hid h
   clear h hp hn hb hlt hlen hr
   go_enter Tryz.func115, Tryz.ntmps115
   go_wp2_with (go_at_call 141; refine (HO.out _).mono ?_; rintro e w' ⟨rfl, rfl⟩)
   go_ret
   rw [HE.out]
   exact WrTo.same HW.out 0
 | true =>
   rw [hr] at HO
   have HE : Hid (s.field num wire pcs.flatten = s.plain (uvarint (tagN num wire) ++ pcs.flatten)) := by show _ = _; rw [Ws.field, hr, if_pos rfl]
   have HW := Lib.hid h
   have HP := Lib.hid hp
   have HLT := Lib.hid hlt
   have HN := Lib.hid hn
   generalize tagN num wire = tg at *
   clear h hp hlt hr hn
   go_enter Tryz.func115, Tryz.ntmps115
   go_wp2_with (first
    | (go_at_call 141; refine (HO.out _).mono ?_; rintro e w' ⟨rfl, rfl⟩)
    | (go_at_call 94; refine (put_new _ _ (by have := HLT.out; omega)).mono ?_; rintro e w1 ⟨A1, cap1, rfl, hB1, hb1, ha1⟩; have HB1 := Lib.hid hB1; have HBE1 := Lib.hid hb1; have HA1 := Lib.hid ha1; clear hB1 hb1 ha1)
    | (go_at_call 121; have hw1 := (HW.out.bel HBE1.out).bel ((Below.refl _ _).alloc (Nat.le_refl _) (.cells #[.slice A1 (uvarint tg).length cap1] 34)); have hq := plain_any hw1 (pcs_one (fun k hk => ((HW.out.bel HBE1.out).lt k hk).2) _ HB1.out rfl (fun a ha => ⟨fun hs => by have := (HA1.out a ha).1; have := (HW.out.lt _ hs).2; omega, (HA1.out a ha).2⟩)) rfl (by simp; omega); refine hq.mono ?_; clear hq; rintro e w2 ⟨rfl, S2, hw2, hs2, ht2⟩; have hp2 := (HP.out.touch (Touch.of_below S (HBE1.out.alloc HBE1.out.size _)) (fun _ h => h) (fun _ h => .inl h)).touch ht2 (fun _ h => h) hs2; have HP2 := Lib.hid hp2; have HW2 := Lib.hid hw2; have hs3 : ∀ k, S2 k → S k ∨ w.heap.size ≤ k := fun k hk => (hs2 k hk).imp id (fun h => by have := (HBE1.out.alloc HBE1.out.size (.cells #[.slice A1 (uvarint tg).length cap1] 34)).size; omega); have HS3 := Lib.hid hs3; have ht3 := (Touch.of_below S (HBE1.out.alloc HBE1.out.size (.cells #[.slice A1 (uvarint tg).length cap1] 34))).trans ht2 (fun _ h => .inl h); have HT3 := Lib.hid ht3; clear hw1 hw2 hs2 ht2 hp2 hs3 ht3 HBE1 HB1 HA1)
    | (go_at_call 121; refine (plain_any HW2.out HP2.out HN.out (by rw [plain_len]; simp only [List.flatten_cons, List.flatten_nil, List.append_nil]; omega)).mono ?_; rintro e w4 ⟨rfl, S4, hw4, hs4, ht4⟩))
   go_ret
   have e1 : (s.plain [uvarint tg].flatten).plain pcs.flatten = s.plain (uvarint tg ++ pcs.flatten) := by simp [Ws.plain]
   rw [HE.out]
   rw [e1] at hw4
   refine ⟨rfl, S4, hw4, fun k hk => ?_, HT3.out.trans ht4 HS3.out⟩
   rcases hs4 k hk with h | h
   ·exact HS3.out k h
   ·exact .inr (by have := HT3.out.size; omega)
theorem fits_field {B p : Nat} {S : Nat → Prop} {made : Bool} {s : Ws} {w w1 : World} (h : Wr B w p S made s) (hb : Below w.heap.size w w1) {s' : Ws} {v : Value} {e : Ending} {w' : World} (o : Obj) (ht : WrTo B (w1.alloc o) p S made s' v e w') : WrTo B w p S made s' v e w' := by
 obtain ⟨he, S', h1, h2, h3⟩ := ht
 have hba := hb.alloc hb.size o
 refine ⟨he, S', h1, fun k hk => (h2 k hk).imp id (fun h => by have := hba.size; omega), (Touch.of_below S hba).trans h3 (fun _ h => .inl h)⟩
theorem wvarint_any {B p : Nat} {S : Nat → Prop} {s : Ws} {w : World} (h : Wr B w p S true s) (num : Int) (n : Nat) (hn : n < 18446744073709551616) (hb : s.raw.length ≤ 70368744177664) :
 Calls Tryz.prog 157 #[.pointer (some ⟨p, 0, none⟩), .int .i64 num, .int .u64 (n : Int)] w (WrTo B w p S true (s.field num 0 (uvarint n)) (.bool (rightB num 0))) := by
 have hlen := Lib.uvarint_length64 hn
 have HW := Lib.hid h
 clear h
 go_enter Tryz.func157, Tryz.ntmps157
 go_wp2_with (first
  | (go_at_call 94; refine (put_new _ _ hn).mono ?_; rintro e w1 ⟨A1, cap1, rfl, hB1, hb1, ha1⟩; have HB1 := Lib.hid hB1; have HBE1 := Lib.hid hb1; have HA1 := Lib.hid ha1; clear hB1 hb1 ha1)
  | (go_at_call 115; have hq := wfield_any ((HW.out.bel HBE1.out).bel ((Below.refl _ _).alloc (Nat.le_refl _) (.cells #[.slice A1 (uvarint n).length cap1] 34))) num 0 (pcs_one (fun k hk => ((HW.out.bel HBE1.out).lt k hk).2) _ HB1.out rfl (fun a ha => ⟨fun hs => by have := (HA1.out a ha).1; have := (HW.out.lt _ hs).2; omega, (HA1.out a ha).2⟩)) rfl (by simp; omega); refine hq.mono ?_; clear hq; intro e w2 hto; have hto2 := fits_field HW.out HBE1.out _ hto; obtain ⟨rfl, hrest⟩ := hto2; have HR := Lib.hid hrest; clear hto hrest))
 go_ret
 have q := HR.out
 simp only [List.flatten_cons, List.flatten_nil, List.append_nil] at q
 exact ⟨rfl, q⟩
theorem wfixed8_any {B p : Nat} {S : Nat → Prop} {s : Ws} {w : World} (h : Wr B w p S true s) (num : Int) (n : Nat) (hn : n < 18446744073709551616) (hb : s.raw.length ≤ 70368744177664) :
 Calls Tryz.prog 158 #[.pointer (some ⟨p, 0, none⟩), .int .i64 num, .int .u64 (n : Int)] w (WrTo B w p S true (s.field num 1 (le 8 n)) (.bool (rightB num 1))) := by
 have hlen : (le 8 n).length ≤ 8 := Nat.le_of_eq (le_length 8 n)
 obtain ⟨bs, hbs⟩ : ∃ bs, bs = le 8 n := ⟨_, rfl⟩
 have HP := Lib.hid (fun w => put8_new n w hn)
 rw [← hbs] at hlen HP ⊢
 clear hbs
 have HW := Lib.hid h
 clear h
 go_enter Tryz.func158, Tryz.ntmps158
 go_wp2_with (first
  | (go_at_call 93; refine (HP.out _).mono ?_; rintro e w1 ⟨A1, cap1, rfl, hB1, hb1, ha1⟩; have HB1 := Lib.hid hB1; have HBE1 := Lib.hid hb1; have HA1 := Lib.hid ha1; clear hB1 hb1 ha1)
  | (go_at_call 115; have hq := wfield_any ((HW.out.bel HBE1.out).bel ((Below.refl _ _).alloc (Nat.le_refl _) (.cells #[.slice A1 (bs).length cap1] 34))) num 1 (pcs_one (fun k hk => ((HW.out.bel HBE1.out).lt k hk).2) _ HB1.out rfl (fun a ha => ⟨fun hs => by have := (HA1.out a ha).1; have := (HW.out.lt _ hs).2; omega, (HA1.out a ha).2⟩)) rfl (by simp; omega); refine hq.mono ?_; clear hq; intro e w2 hto; have hto2 := fits_field HW.out HBE1.out _ hto; obtain ⟨rfl, hrest⟩ := hto2; have HR := Lib.hid hrest; clear hto hrest))
 go_ret
 have q := HR.out
 simp only [List.flatten_cons, List.flatten_nil, List.append_nil] at q
 exact ⟨rfl, q⟩
theorem wfixed4_any {B p : Nat} {S : Nat → Prop} {s : Ws} {w : World} (h : Wr B w p S true s) (num : Int) (n : Nat) (hn : n < 4294967296) (hb : s.raw.length ≤ 70368744177664) :
 Calls Tryz.prog 159 #[.pointer (some ⟨p, 0, none⟩), .int .i64 num, .int .u32 (n : Int)] w (WrTo B w p S true (s.field num 5 (le 4 n)) (.bool (rightB num 5))) := by
 have hlen : (le 4 n).length ≤ 4 := Nat.le_of_eq (le_length 4 n)
 obtain ⟨bs, hbs⟩ : ∃ bs, bs = le 4 n := ⟨_, rfl⟩
 have HP := Lib.hid (fun w => put4_new n w hn)
 rw [← hbs] at hlen HP ⊢
 clear hbs
 have HW := Lib.hid h
 clear h
 go_enter Tryz.func159, Tryz.ntmps159
 go_wp2_with (first
  | (go_at_call 92; refine (HP.out _).mono ?_; rintro e w1 ⟨A1, cap1, rfl, hB1, hb1, ha1⟩; have HB1 := Lib.hid hB1; have HBE1 := Lib.hid hb1; have HA1 := Lib.hid ha1; clear hB1 hb1 ha1)
  | (go_at_call 115; have hq := wfield_any ((HW.out.bel HBE1.out).bel ((Below.refl _ _).alloc (Nat.le_refl _) (.cells #[.slice A1 (bs).length cap1] 34))) num 5 (pcs_one (fun k hk => ((HW.out.bel HBE1.out).lt k hk).2) _ HB1.out rfl (fun a ha => ⟨fun hs => by have := (HA1.out a ha).1; have := (HW.out.lt _ hs).2; omega, (HA1.out a ha).2⟩)) rfl (by simp; omega); refine hq.mono ?_; clear hq; intro e w2 hto; have hto2 := fits_field HW.out HBE1.out _ hto; obtain ⟨rfl, hrest⟩ := hto2; have HR := Lib.hid hrest; clear hto hrest))
 go_ret
 have q := HR.out
 simp only [List.flatten_cons, List.flatten_nil, List.append_nil] at q
 exact ⟨rfl, q⟩
end Go.Proofs.YtloheacncefkgaaGreatDoor

/- Text, and Bytes. Conditions: those that each theorem names. -/
namespace Go.Proofs.YtloheacncefkgaaGreatDoor
open Go.RowKit
open Go.Lib (uvarint)
set_option linter.unusedVariables false
set_option maxRecDepth 100000

set_option maxHeartbeats 1000000 in
theorem wtext_any {B p : Nat} {S : Nat → Prop} {s : Ws} {w : World} (h : Wr B w p S true s) (num : Int) (t : List UInt8) (hb : s.raw.length + (20 + t.length) ≤ 140737488355328) :
 Calls Tryz.prog 72 #[.pointer (some ⟨p, 0, none⟩), .int .i64 num, .string (strOf t)] w (WrTo B w p S true (s.field num 2 (uvarint t.length ++ t)) (.bool (rightB num 2))) := by
 have HC := run_bytes t
 obtain ⟨N, hN⟩ : ∃ N, N = t.length := ⟨_, rfl⟩
 have hsz : (strOf t).size = N := by rw [str_size, hN]
 rw [← hN] at hb HC
 have hlen := Lib.uvarint_length64 (x := N) (by omega)
 have hwr : IntKind.u64.wrap (N : Int) = (N : Int) := IntWalk.u64_in _ (by omega)
 have HN := Lib.hid hN
 have HW := Lib.hid h
 have hn64 : N < 18446744073709551616 := by omega
 have hE : Hid (s.field num 2 (uvarint t.length ++ t) = s.field num 2 (uvarint N ++ t)) := by show _ = _; rw [hN]
 clear h hN
 go_enter Tryz.func72, Tryz.ntmps72
 go_wp2_with (first
  | (go_at_call 94; refine (put_new _ _ hn64).mono ?_; rintro e w1 ⟨A1, cap1, rfl, hB1, hb1, ha1⟩; have HB1 := Lib.hid hB1; have HBE1 := Lib.hid hb1; have HA1 := Lib.hid ha1; clear hB1 hb1 ha1)
  | (go_at_call 115
     have b2 := bytes_below w1 t
     have b3 := HBE1.out.trans (b2.mono HBE1.out.size)
     have hq := wfield_any ((HW.out.bel b3).bel ((Below.refl _ _).alloc (Nat.le_refl _) (.cells #[.slice A1 (uvarint N).length cap1, .slice (some ⟨w1.heap.size, 0, none⟩) N (grownCap w1 N 0 5)] 34))) num 2
      (pcs_two (fun k hk => ((HW.out.bel b3).lt k hk).2) _ (HB1.out.below b2 (Nat.le_refl _)) rfl (fun a ha => ⟨fun hs => by have := (HA1.out a ha).1; have := (HW.out.lt _ hs).2; omega, by have := (HA1.out a ha).2; rw [bytes_size]; omega⟩)
       (bs2 := t) (by rw [HN.out]; exact bytes_bs w1 t (by unfold maxLen; rw [← HN.out]; omega)) HN.out (fun a ha => by cases ha; exact ⟨fun hs => Nat.lt_irrefl _ (Nat.lt_of_lt_of_le (HW.out.lt _ hs).2 HBE1.out.size), by rw [bytes_size]; exact Nat.lt_succ_self _⟩)) rfl (by simp only [List.flatten_cons, List.flatten_nil, List.append_nil, List.length_append, ← HN.out]; omega)
     refine hq.mono ?_; clear hq; intro e w2 hto
     have hto2 := fits_field HW.out b3 _ hto
     obtain ⟨rfl, hrest⟩ := hto2
     have HR := Lib.hid hrest
     clear hto hrest))
 go_ret
 have q := HR.out
 simp only [List.flatten_cons, List.flatten_nil, List.append_nil] at q
 rw [hE.out]
 exact ⟨rfl, q⟩
/-- Bytes, where no frame is open. -/
theorem wbytes_any {B p : Nat} {S : Nat → Prop} {made : Bool} {s : Ws} {w : World} (h : Wr B w p S made s) (hop : s.op = []) (hb : s.raw.length ≤ 140737488351232) :
 Calls Tryz.prog 33 #[.pointer (some ⟨p, 0, none⟩)] w (Gives w s.raw) := by
 have HD : Hid (∀ w', w = w' → Calls Tryz.prog 81 #[.pointer (some ⟨p, 0, none⟩)] w' fun e w'' => e = .returned (.int .i64 0) ∧ w' = w'') := by
  rintro w' rfl
  have := wdeep_any h
  rw [hop] at this
  exact this
 obtain ⟨vb, vf, vo, ps, hat⟩ := h
 obtain ⟨_, A, cap, rfl, hB⟩ := Bs.own hat.raw
 have c1 := obj_cell hat.obj 1
 obtain ⟨n, hn⟩ : ∃ n, n = s.raw.length := ⟨_, rfl⟩
 rw [← hn] at c1
 have HCL := Lib.hid (fun w' (h : w = w') => clone_n A n cap s.raw w' hn (h ▸ hB) hb)
 have HN := Lib.hid hn
 clear hat hB hn hop hb
 go_enter Tryz.func33, Tryz.ntmps33
 go_wp2_with (first
  | (go_at_call 81; refine (HD.out _ rfl).mono ?_; rintro e w' ⟨rfl, rfl⟩)
  | (go_at_call 82; refine (HCL.out _ rfl).mono ?_; rintro e w' ⟨A2, cap2, rfl, hB2, hb2⟩))
 go_ret
 exact ⟨A2, cap2, rfl, hB2, hb2⟩
end Go.Proofs.YtloheacncefkgaaGreatDoor

/- slices.Clone of bytes and a writer's Bytes once more: what they answer lies in new memory. Conditions: those that each theorem names. -/
namespace Go.Proofs.YtloheacncefkgaaGreatDoor
open Go.RowKit
set_option linter.unusedVariables false
set_option maxRecDepth 100000

theorem clone_new (A : Option Addr) (n cap : Nat) (bs : List UInt8) (w : World) (hn : n = bs.length) (hb : Bs w A cap bs) (hlen : bs.length ≤ 140737488351232) :
 Calls Tryz.prog 82 #[.slice A n cap] w (GivesN w bs) := by
 subst hn
 obtain ⟨i0, hi, hz0, hz1, hz2⟩ := info_parts info_u8
 rcases A with _ | a
 ·have h0 := hb.nil rfl
  have hle := hb.le
  have hbs : bs = [] := List.eq_nil_of_length_eq_zero (by omega)
  subst hbs h0
  have he : ∀ w : World, (binOp .eql 34 (.slice none 0 0) (.slice none 0 0)).run Tryz.prog w = .ok (.bool true) w := fun _ => rfl
  go_enter Tryz.func82, Tryz.ntmps82
  go_wp2
  go_ret
  exact ⟨none, 0, rfl, bs_nil _, Below.refl _ _, fun _ h => by cases h⟩
 ·have he : ∀ w : World, (binOp .eql 34 (.slice (some a) bs.length cap) (.slice none 0 0)).run Tryz.prog w = .ok (.bool false) w := fun _ => rfl
  have HB := Lib.hid hb
  clear hb
  go_enter Tryz.func82, Tryz.ntmps82
  go_wp2_with (at_builtin; refine wpList_append_bs rfl (.tmp 5) (.tmp 6) _ rfl w.heap.size 5 i0 Tryz.underlying34 hi hz0 hz1 hz2 _ 0 [] rfl (own0 w) _ _ _ bs rfl rfl (HB.out.alloc _) (by simp; omega) (by simp) ?_; go_must (intro v2 w2 hown2 hgrow2))
  go_ret
  exact new_own hown2 (((Below.refl _ _).alloc (Nat.le_refl _) _).grown hgrow2 (by simp) (fun k e => by cases e; exact Nat.le_refl _))
theorem wbytes_new {B p : Nat} {S : Nat → Prop} {made : Bool} {s : Ws} {w : World} (h : Wr B w p S made s) (hop : s.op = []) (hb : s.raw.length ≤ 140737488351232) :
 Calls Tryz.prog 33 #[.pointer (some ⟨p, 0, none⟩)] w (GivesN w s.raw) := by
 have HD : Hid (∀ w', w = w' → Calls Tryz.prog 81 #[.pointer (some ⟨p, 0, none⟩)] w' fun e w'' => e = .returned (.int .i64 0) ∧ w' = w'') := by
  rintro w' rfl
  have := wdeep_any h
  rw [hop] at this
  exact this
 obtain ⟨vb, vf, vo, ps, hat⟩ := h
 obtain ⟨_, A, cap, rfl, hB⟩ := Bs.own hat.raw
 have c1 := obj_cell hat.obj 1
 obtain ⟨n, hn⟩ : ∃ n, n = s.raw.length := ⟨_, rfl⟩
 rw [← hn] at c1
 have HCL := Lib.hid (fun w' (h : w = w') => clone_new A n cap s.raw w' hn (h ▸ hB) hb)
 have HN := Lib.hid hn
 clear hat hB hn hop hb
 go_enter Tryz.func33, Tryz.ntmps33
 go_wp2_with (first
  | (go_at_call 81; refine (HD.out _ rfl).mono ?_; rintro e w' ⟨rfl, rfl⟩)
  | (go_at_call 82; refine (HCL.out _ rfl).mono ?_; rintro e w' ⟨A2, cap2, rfl, hB2, hb2, hn2⟩))
 go_ret
 exact ⟨A2, cap2, rfl, hB2, hb2, hn2⟩
end Go.Proofs.YtloheacncefkgaaGreatDoor

/- What becomes of a writer when a frame's head is laid down, and when fewer frames are open (no program here); the plain words for Close. Conditions: those that each theorem names. -/
namespace Go.Proofs.YtloheacncefkgaaGreatDoor
open Go.RowKit
open Go.Lib (uvarint)
set_option linter.unusedVariables false

def Fr.headed (f : Fr) (h : List UInt8) : Fr := ⟨f.tag, f.place, f.before, h⟩
/-- The head of a frame that ends at this length. -/
def Fr.headAt (f : Fr) (len : Nat) : List UInt8 := uvarint f.tag ++ uvarint (len - f.before)
/-- The innermost frame, number o, has ended. -/
def Ws.shut1 (s : Ws) (init : List Nat) (o : Nat) (f : Fr) : Ws := ⟨s.raw, s.fs.set o (f.headed (f.headAt (s.raw.length + s.room))), init, s.room + (f.headAt (s.raw.length + s.room)).length⟩
def Ws.shut (s : Ws) (init : List Nat) (o : Nat) (f : Fr) : Ws := if init = [] then (s.shut1 init o f).lay else s.shut1 init o f

section
variable {B p : Nat} {S : Nat → Prop} {made : Bool} {s : Ws} {vb vf vo : Value} {ps : List (Fr × Value)} {w w2 : World}
theorem wr_head (h : WrAt B w p S made s vb vf vo ps) (hb : Below w.heap.size w w2) {gf o : Nat} (hgf : vf.ownBlock = some gf) {f : Fr} {v : Value} (ho : ps[o]? = some (f, v)) {A : Option Addr} {n cap : Nat} {hd : List UInt8} (hB : Bs w2 A cap hd) (hn : n = hd.length) (hA : ∀ a, A = some a → w.heap.size ≤ a.block ∧ a.block < w2.heap.size) :
 ∃ S', WrAt B (w2.setCell ⟨gf, o * 4 + 3, none⟩ (.slice A n cap)) p S' made ⟨s.raw, s.fs.set o (f.headed hd), s.op, s.room⟩ vb vf vo (ps.set o (f.headed hd, .slice A n cap)) ∧ (∀ k, S' k → S k ∨ w.heap.size ≤ k) ∧ Touch S w (w2.setCell ⟨gf, o * 4 + 3, none⟩ (.slice A n cap)) := by
 subst hn
 have h2 : WrAt B w2 p S made s vb vf vo ps := h.keep (fun k hk => hb.block k (h.lt k hk).2) hb.size
 have hlt := fun k hk => (h.lt k hk).2
 have hlo : o < ps.length := (List.getElem?_eq_some_iff.1 ho).1
 have hne : ∀ k, k ≠ gf → (w2.setCell ⟨gf, o * 4 + 3, none⟩ (.slice A hd.length cap)).heap[k]? = w2.heap[k]? := fun k hk => heap_setCell_other w2 ⟨gf, o * 4 + 3, none⟩ k _ hk
 have hpg : p ≠ gf := fun e => own_other h.row h.obj (by decide) (e ▸ hgf)
 have hrow := own_set h2.row hgf (j := o * 4 + 3) (by rw [frRow_length]; omega) (.slice A hd.length cap)
 rw [show (frRow ps).set (o * 4 + 3) (.slice A hd.length cap) = frRow (ps.set o (f.headed hd, .slice A hd.length cap)) from by
  unfold frRow
  rw [Nat.mul_comm o 4]
  exact flat_set frCells 4 frCells_length ps o (f, v) (f.headed hd, .slice A hd.length cap) 3 _ ho (by decide) rfl] at hrow
 refine ⟨Since S w (w2.setCell ⟨gf, o * 4 + 3, none⟩ (.slice A hd.length cap)), ⟨(hne p hpg).trans h2.obj, own_block h2.raw (fun k e => hne k (fun e' => own_own h.raw h.row (by decide) hgf (e' ▸ e))), by rw [List.length_set]; exact hrow, own_block h2.op (fun k e => hne k (fun e' => own_own h.op h.row (by decide) hgf (e' ▸ e))), ?_, fun q hq => ?_, .inl h.sp, fun k e => .inl (h.sb k e), fun k e => .inl (h.sf k e), fun k e => .inl (h.so k e), ?_⟩, since_of, (Touch.of_below S hb).set (q := ⟨gf, o * 4 + 3, none⟩) (.inl (h.sf gf hgf)) _⟩
 ·rw [List.map_set, h.fs]
 ·have hkeepB : ∀ {A' : Option Addr} {c' : Nat} {bs : List UInt8}, Bs w2 A' c' bs → (∀ a, A' = some a → a.block ≠ gf) → Bs (w2.setCell ⟨gf, o * 4 + 3, none⟩ (.slice A hd.length cap)) A' c' bs := fun hb' hk => Bs.heap hb' (fun a ha => hne _ (hk a ha))
  rcases List.mem_or_eq_of_mem_set hq with hq | rfl
  ·obtain ⟨A', c', e, hb', hs'⟩ := h2.hd q hq
   exact ⟨A', c', e, hkeepB hb' (fun a ha e' => (hs' a ha).2 (.inr (.inr (.inl (e' ▸ hgf))))), fun a ha => ⟨.inl (hs' a ha).1, (hs' a ha).2⟩⟩
  ·refine ⟨A, cap, rfl, hkeepB hB (fun a ha e' => by have := (hA a ha).1; have := hlt gf (h.sf gf hgf); omega), fun a ha => ⟨.inr ⟨(hA a ha).1, by rw [show (w2.setCell ⟨gf, o * 4 + 3, none⟩ (.slice A hd.length cap)).heap.size = w2.heap.size from by simp [World.setCell]]; exact (hA a ha).2⟩, fun hm => ?_⟩⟩
   have q1 := (hA a ha).1
   rcases hm with e | e | e | e
   ·have := hlt p h.sp; omega
   ·have := hlt _ (h.sb _ e); omega
   ·have := hlt _ (h.sf _ e); omega
   ·have := hlt _ (h.so _ e); omega
 ·intro k hk
  have e : (w2.setCell ⟨gf, o * 4 + 3, none⟩ (.slice A hd.length cap)).heap.size = w2.heap.size := by simp [World.setCell]
  rcases hk with hk | hk
  ·exact ⟨(h.lt k hk).1, by rw [e]; have := (h.lt k hk).2; have := hb.size; omega⟩
  ·exact ⟨by have := h.lt p h.sp; omega, hk.2⟩
/-- Fewer frames are open. -/
theorem wr_take {g : Nat} {capo : Nat} (h : WrAt B w p S made s vb vf (.slice (some ⟨g, 0, none⟩) s.op.length capo) ps) {init : List Nat} {o : Nat} (hop : s.op = init ++ [o]) :
 ∃ S', WrAt B (w.setCell ⟨p, 3, none⟩ (.slice (some ⟨g, 0, none⟩) init.length capo)) p S' made ⟨s.raw, s.fs, init, s.room⟩ vb vf (.slice (some ⟨g, 0, none⟩) init.length capo) ps ∧ (∀ k, S' k → S k ∨ w.heap.size ≤ k) ∧ Touch S w (w.setCell ⟨p, 3, none⟩ (.slice (some ⟨g, 0, none⟩) init.length capo)) := by
 have ho := own_take h.op (k := init.length) (by rw [hop]; simp)
 rw [hop, ints_append, Nat.mul_one, List.take_append_of_le_length (by rw [ints_length]; omega), List.take_of_length_le (by rw [ints_length]; omega)] at ho
 exact wr_op h (World.grownBy.refl _ _) (v2 := .slice (some ⟨g, 0, none⟩) init.length capo) (.inl rfl) (op2 := init) ho
end
end Go.Proofs.YtloheacncefkgaaGreatDoor

/- Open. Conditions: those that each theorem names. -/
namespace Go.Proofs.YtloheacncefkgaaGreatDoor
open Go.RowKit
set_option linter.unusedVariables false
set_option maxRecDepth 100000

theorem winfo_int : (Tryz.prog.info? 3).map (fun i => (i.zero, i.size, i.bytes)) = some (some (.int .i64 0), 1, 8) := by kernel_rfl
theorem winfo_frame : (Tryz.prog.info? 162).map (fun i => (i.zero, i.size, i.bytes)) = some (some (.agg #[.int .u64 0, .int .i64 0, .int .i64 0, .slice none 0 0]), 4, 48) := by kernel_rfl

theorem grown_below {w w1 w2 : World} {row : Option Nat} (hb : Below w.heap.size w w1) (h : w1.grownBy w2 row) : w.grownBy w2 row :=
 ⟨h.os.trans hb.os, h.tape.trans hb.tape, h.output.trans hb.output, Nat.le_trans hb.size h.size, fun k hk hr => (h.block k (Nat.lt_of_lt_of_le hk hb.size) hr).trans (hb.block k hk)⟩
theorem moved_below {w w1 : World} {v v2 : Value} (hb : Below w.heap.size w w1) (h : Moved w1 v v2) : Moved w v v2 := by
 rcases h with e | ⟨g, e, hg⟩
 ·exact .inl e
 ·exact .inr ⟨g, e, Nat.le_trans hb.size hg⟩
theorem own_bel {w w1 : World} {B : Nat} {base : Nat} {e : TypeId} {size n : Nat} {v : Value} {xs : List Value} (h : w.ownsRow base e size v n xs) (hb : Below w.heap.size w w1) : w1.ownsRow base e size v n xs :=
 own_block h (fun k hk => hb.block k (h.lt k hk).2)

theorem emcells_new (w : World) (cs : List Value) (t : TypeId) : ∀ j u, cs[j]? = some u → (w.alloc (.cells cs.toArray t)).cell? ((⟨w.heap.size, 0, none⟩ : Addr).add j) = some u := by
 intro j u hu
 have hadd : (⟨w.heap.size, 0, none⟩ : Addr).add j = ⟨w.heap.size, j, none⟩ := by unfold Addr.add; split <;> simp_all
 rw [hadd, obj_cell (heap_alloc_new w _)]
 simpa using hu
def Ws.opens (s : Ws) (num : Int) : Ws := if rightB num 2 = true then ⟨s.raw, s.fs ++ [⟨tagN num 2, s.raw.length, s.raw.length + s.room, []⟩], s.op ++ [s.fs.length], s.room⟩ else s
/-- A writer that came of another. -/
def From (B : Nat) (w : World) (p : Nat) (S : Nat → Prop) (made : Bool) (s : Ws) (wx : World) : Prop := ∃ S', Wr B wx p S' made s ∧ (∀ k, S' k → S k ∨ w.heap.size ≤ k) ∧ Touch S w wx
theorem from_op {B p : Nat} {S : Nat → Prop} {made : Bool} {s : Ws} {w w1 w2 : World} {vb vf vo v2 : Value} {ps : List (Fr × Value)} {op2 : List Nat} (h : WrAt B w p S made s vb vf vo ps) (hb : Below w.heap.size w w1) (hg : w1.grownBy w2 vo.ownBlock) (hm : Moved w1 vo v2)
 (ho : w2.ownsRow B 3 1 v2 op2.length (ints op2)) : From B w p S made ⟨s.raw, s.fs, op2, s.room⟩ (w2.setCell ⟨p, 3, none⟩ v2) := by
 obtain ⟨S', h1, h2, h3⟩ := wr_op h (grown_below hb hg) (moved_below hb hm) ho
 exact ⟨S', ⟨_, _, _, _, h1⟩, h2, h3⟩
theorem from_row {B p : Nat} {S : Nat → Prop} {made : Bool} {s : Ws} {w w1 w2 : World} {vb vf vo v2 : Value} {ps : List (Fr × Value)} {f : Fr} (h : WrAt B w p S made s vb vf vo ps) (hb : Below w.heap.size w w1) (hg : w1.grownBy w2 vf.ownBlock) (hm : Moved w1 vf v2) (hf : f.head = [])
 (ho : w2.ownsRow B 162 4 v2 (ps.length + 1) (frRow ps ++ frCells (f, .slice none 0 0))) : From B w p S made ⟨s.raw, s.fs ++ [f], s.op, s.room⟩ (w2.setCell ⟨p, 2, none⟩ v2) := by
 obtain ⟨S', h1, h2, h3⟩ := wr_row h (grown_below hb hg) (moved_below hb hm) hf (by rw [frRow, List.flatMap_append]; simpa [frRow] using ho)
 exact ⟨S', ⟨_, _, _, _, h1⟩, h2, h3⟩

set_option maxHeartbeats 2000000 in
theorem wopen_any {B p : Nat} {S : Nat → Prop} {s : Ws} {w : World} (h : Wr B w p S true s) (num : Int) (hb : s.raw.length + s.room ≤ 70368744177664) (hop : s.op.length ≤ 1099511627776) (hfs : s.fs.length ≤ 1099511627776) :
 Calls Tryz.prog 118 #[.pointer (some ⟨p, 0, none⟩), .int .i64 num] w (WrTo B w p S true (s.opens num) (.bool (rightB num 2))) := by
 have HO := Lib.hid (of_any num 2)
 have hlt := tagN_lt num 2
 obtain ⟨i0, hi, hz0, hz1, hz2⟩ := info_parts winfo_int
 obtain ⟨i1, hi1, hy0, hy1, hy2⟩ := info_parts winfo_frame
 cases hr : rightB num 2 with
 | false =>
   rw [hr] at HO
   have HE : Hid (s.opens num = s) := by show _ = _; rw [Ws.opens, hr, if_neg (by simp)]
   have HW := Lib.hid h
   clear h hb hlt hr
   go_enter Tryz.func118, Tryz.ntmps118
   go_wp2_with (go_at_call 141; refine (HO.out _).mono ?_; rintro e w' ⟨rfl, rfl⟩)
   go_ret
   rw [HE.out]
   exact WrTo.same HW.out 0
 | true =>
   rw [hr] at HO
   have HE : Hid (s.opens num = ⟨s.raw, s.fs ++ [⟨tagN num 2, s.raw.length, s.raw.length + s.room, []⟩], s.op ++ [s.fs.length], s.room⟩) := by show _ = _; rw [Ws.opens, hr, if_pos rfl]
   have HRD := Lib.hid (ready_any h)
   have HW := Lib.hid h
   obtain ⟨vb, vf, vo, ps, hat⟩ := h
   obtain ⟨Af, capf, hvf, x1, x2, _, _⟩ := own_form hat.row
   obtain ⟨Ao, capo, hvo, x3, x4, _, _⟩ := own_form hat.op
   subst hvf hvo
   have c2 := obj_cell hat.obj 2
   have c3 := obj_cell hat.obj 3
   have f3 := obj_free hat.obj 3
   have hpl : p < w.heap.size := (hat.lt p hat.sp).2
   have hpsl : ps.length = s.fs.length := by rw [← hat.fs, List.length_map]
   obtain ⟨N, hN⟩ : ∃ N, N = ps.length := ⟨_, rfl⟩
   obtain ⟨K, hK⟩ : ∃ K, K = s.op.length := ⟨_, rfl⟩
   rw [← hN] at c2 c3 x1
   rw [← hK] at c2 c3 x3
   unfold maxLen at x2 x4
   have HAT := Lib.hid hat
   have HN := Lib.hid hN
   have HK := Lib.hid hK
   have HPS := Lib.hid hpsl
   have HLT := Lib.hid hlt
   have HFS := Lib.hid hfs
   have HOP := Lib.hid hop
   have hBw : B ≤ w.heap.size := by have := hat.lt p hat.sp; omega
   generalize tagN num 2 = tg at *
   clear hat hN hK hpsl hlt hr hfs hop
   go_enter Tryz.func118, Tryz.ntmps118
   go_wp2_with (first
    | (go_at_call 141; refine (HO.out _).mono ?_; rintro e w' ⟨rfl, rfl⟩)
    | (go_at_call 142; refine HRD.out.mono ?_; rintro e w' ⟨rfl, rfl⟩))
   go_cut [] from 19 to 32 (fun wx => From B w p S true ⟨s.raw, s.fs, s.op ++ [s.fs.length], s.room⟩ wx)
   case first =>
    go_region_law (first
     | (refine step_append2 (by rfl) _ _ 55 (by rfl) B 3 i0 (.int .i64 0) 1 8 Tryz.underlying55 hi hz0 hz1 hz2 rfl (by decide) (.slice Ao K capo) K (ints s.op) (by rfl) (own_bel (B := B) (show w.ownsRow B 3 1 (.slice Ao K capo) K (ints s.op) from by have := HAT.out.op; rwa [← HK.out] at this) ((Below.refl _ w).drew.alloc (Nat.le_refl _) _)) ⟨w.heap.size, 0, none⟩ 1 1 [.int .i64 (N : Int)] (by rfl) rfl (cell_one_new _ _ _) (by intro u hu; simp at hu; subst hu; rfl) (by have := HOP.out; have := HK.out; unfold maxLen; omega) (by have := HOP.out; have := HK.out; omega) (by simp; omega) ?_
        intro v2 w2 hown2 hg2 hm2
        obtain ⟨A2, cap2, hv2, _, _, _, _⟩ := own_form hown2
        subst hv2
        have hp2 := (hg2.block p (by simp; omega) (fun e => own_other HAT.out.op HAT.out.obj (by decide) (by rw [← HK.out]; exact e.symm))).trans ((Below.heap_alloc _ _ _ hpl).trans HAT.out.obj)
        have c32 := obj_cell hp2 3
        have f32 := obj_free hp2 3
        have HP2 := Lib.hid hp2
        clear hp2))
    all_goals
     go_wp2_with fail
     go_meet
     case rel =>
      have hg3 := hg2
      have hm3 := hm2
      rw [HK.out] at hg3 hm3
      have e := from_op HAT.out (op2 := s.op ++ [s.fs.length]) ((Below.refl _ w).drew.alloc (Nat.le_refl _) _) hg3 hm3 (by rw [List.length_append, ints_append, ← HPS.out, ← HN.out, ← HK.out]; exact hown2)
      rw [← HK.out] at e
      exact e
   case rest =>
    obtain ⟨S1, hw1, hs1, ht1⟩ := hcut
    have HLEN := Lib.hid (fun m => wlen_any (hw1.bel (w' := wc.drew.drewN m) ⟨rfl, rfl, rfl, Nat.le_refl _, fun _ _ => rfl⟩) hb)
    have HLEN0 := Lib.hid (wlen_any (hw1.bel (w' := wc.drew) ⟨rfl, rfl, rfl, Nat.le_refl _, fun _ _ => rfl⟩) hb)
    have HS1 := Lib.hid hs1
    have HT1 := Lib.hid ht1
    obtain ⟨vb1, vf1, vo1, ps1, hat1⟩ := hw1
    obtain ⟨Ab1, capb1, hvb1, y1, y2, _, _⟩ := own_form hat1.raw
    obtain ⟨Af1, capf1, hvf1, y3, y4, _, _⟩ := own_form hat1.row
    subst hvb1 hvf1
    have d1 := obj_cell hat1.obj 1
    have d2 := obj_cell hat1.obj 2
    have e2 := obj_free hat1.obj 2
    have hpl1 : p < wc.heap.size := (hat1.lt p hat1.sp).2
    have hBw1 : B ≤ wc.heap.size := by have := hat1.lt p hat1.sp; omega
    have hpsl1 : ps1.length = s.fs.length := by rw [← List.length_map (f := Prod.fst), hat1.fs]
    obtain ⟨N1, hN1⟩ : ∃ N1, N1 = ps1.length := ⟨_, rfl⟩
    obtain ⟨nb, hnb⟩ : ∃ nb, nb = s.raw.length := ⟨_, rfl⟩
    obtain ⟨tot, htot⟩ : ∃ tot, tot = s.raw.length + s.room := ⟨_, rfl⟩
    dsimp only at d1 d2 y1 HLEN HLEN0
    rw [← hnb] at d1 d2 y1
    rw [← hN1] at d1 d2 y3
    rw [← htot] at HLEN HLEN0
    unfold maxLen at y2 y4
    have HAT1 := Lib.hid hat1
    have HN1 := Lib.hid hN1
    have HNB := Lib.hid hnb
    have HTOT := Lib.hid htot
    have HPS1 := Lib.hid hpsl1
    have d22 : ∀ (m : Nat) (o : Obj), ((wc.drewN m).alloc o).cell? ⟨p, 2, none⟩ = some (.slice Af1 N1 capf1) := fun m o => (World.cell?_alloc_lt _ o ⟨p, 2, none⟩ hpl1).trans d2
    clear hat1 hN1 hnb htot hpsl1 hs1 ht1 c2 c3 f3
    go_wp2
    go_region_law (first
     | (go_simp; go_at_call 80; refine HLEN0.out.mono ?_; rintro e w' ⟨rfl, m, rfl⟩)
     | (refine step_append2 (by rfl) _ _ 110 (by rfl) B 162 i1 (.agg #[.int .u64 0, .int .i64 0, .int .i64 0, .slice none 0 0]) 4 48 Tryz.underlying110 hi1 hy0 hy1 hy2 rfl (by decide) (.slice Af1 N1 capf1) N1 (frRow ps1) (by rfl) (own_bel (B := B) (show wc.ownsRow B 162 4 (.slice Af1 N1 capf1) N1 (frRow ps1) from by have := HAT1.out.row; rwa [← HN1.out] at this) ((drew_below wc (1 + m)).alloc (Nat.le_refl _) _)) ⟨wc.heap.size, 0, none⟩ 1 1 [.int .u64 (tg : Int), .int .i64 (nb : Int), .int .i64 (tot : Int), .slice none 0 0] (by rfl) rfl (emcells_new _ _ _) (by intro u hu; simp at hu; rcases hu with rfl | rfl | rfl | rfl <;> rfl) (by have := HFS.out; have := HPS1.out; have := HN1.out; unfold maxLen; omega) (by have := HFS.out; have := HPS1.out; have := HN1.out; omega) (by simp; omega) ?_
        intro v2 w2 hown2 hg2 hm2
        obtain ⟨A2, cap2, hv2, _, _, _, _⟩ := own_form hown2
        subst hv2
        have hp2 := (hg2.block p (by simp; omega) (fun e => own_other HAT1.out.row HAT1.out.obj (by decide) (by rw [← HN1.out]; exact e.symm))).trans ((Below.heap_alloc _ _ _ hpl1).trans HAT1.out.obj)
        have c22 := obj_cell hp2 2
        have f22 := obj_free hp2 2
        have HP2 := Lib.hid hp2
        clear hp2))
    all_goals
     go_wp2
     go_ret
     have hg3 := hg2
     have hm3 := hm2
     rw [HN1.out] at hg3 hm3
     have e := from_row HAT1.out (f := ⟨tg, nb, tot, []⟩) ((drew_below wc (1 + m)).alloc (Nat.le_refl _) _) hg3 hm3 rfl (by rw [← HN1.out]; exact hown2)
     rw [← HN1.out] at e
     rw [HE.out, ← HTOT.out, ← HNB.out]
     obtain ⟨S2, r1, r2, r3⟩ := e
     refine ⟨rfl, S2, r1, fun k hk => ?_, HT1.out.trans r3 HS1.out⟩
     rcases r2 k hk with q | q
     ·exact HS1.out k q
     ·exact .inr (by have := HT1.out.size; omega)
end Go.Proofs.YtloheacncefkgaaGreatDoor
