/- Several texts in one: PnA. What each proves, and its conditions, stands at its own head. -/
import Derived.Test.YtcjjphioeneiiaaGreatDoorPkSB17
import Derived.Test.YtcjjphioeneiiaaGreatDoorPkSB14
import Derived.WalkLawsBesides
/- The landed layer 18: where its reader is, and the token there. Conditions: those that each theorem names. -/
namespace Go.Proofs.YtcjjphioeneiiaaGreatDoor
open Go.RowKit
set_option linter.unusedVariables false
set_option maxRecDepth 100000

/-- Tokens as they come: names are words, marks are none. -/
def GoodT (l : List Tk) : Prop := ∀ i, i < l.length → ((tokOf l i).kind = 1 → wordish (tokOf l i).s = true) ∧ ((tokOf l i).kind = 4 → wordish (tokOf l i).s = false)
/-- What does not read on says so. -/
def errV : Value := .iface 27 (.int .i64 2)
def Ends (y : Ps) (v : Value) (e : Ending) : Prop := (y.at_bad = false ∧ e = .returned v) ∨ (y.at_bad = true ∧ e = .panicked [{ v := errV, recovered := false }])
/-- The reader in memory. -/
structure NAt (w : World) (p : Nat) (A : Option Addr) (cap : Nat) (l : List Tk) (i : Nat) : Prop where
 na_box : w.heap[p]? = some (.cells #[.slice A l.length cap, .int .i64 (i : Int)] 92 (0, 0))
 na_toks : Toks w A cap l
 na_in : i < l.length
/-- What a call leaves. -/
structure NTo (w : World) (p : Nat) (A : Option Addr) (cap : Nat) (l : List Tk) (i : Nat) (w' : World) : Prop where
 nt_box : w'.heap[p]? = some (.cells #[.slice A l.length cap, .int .i64 (i : Int)] 92 (0, 0))
 nt_only : Only p p w w'
section
variable {w w' W2 : World} {p cap i i' : Nat} {A : Option Addr} {l : List Tk}
theorem na_cell (h : NAt w p A cap l i) : ∃ g off, A = some ⟨g, off, none⟩ ∧ g ≠ p := by
 obtain ⟨g, off, e, hc⟩ := h.na_toks.cells _ _ (List.getElem?_eq_getElem h.na_in)
 refine ⟨g, off, e, fun e2 => ?_⟩
 have h4 := hc 4 _ rfl
 rw [e2, cell_of_row w p _ _ _ _ h.na_box] at h4
 simp at h4
theorem na_after (h : NAt w p A cap l i) (hp : NTo w p A cap l i' w') (hi : i' < l.length) : NAt w' p A cap l i' := by
 obtain ⟨g, off, rfl, hg⟩ := na_cell h
 refine ⟨hp.nt_box, ⟨h.na_toks.le, h.na_toks.max, fun j x hj => ?_⟩, hi⟩
 obtain ⟨g2, o2, e, hc⟩ := h.na_toks.cells j x hj
 cases e
 exact ⟨g, off, rfl, fun k u hu => (World.cell?_of_block (hp.nt_only.block g (World.block_lt_of_cell? w _ (hc 0 _ rfl)) hg hg)).trans (hc k u hu)⟩
theorem na_bel (h : NAt w p A cap l i) (hb : Below w.heap.size w W2) : NAt W2 p A cap l i := ⟨(hb.block p (lt_of_block h.na_box)).trans h.na_box, toks_bel h.na_toks hb, h.na_in⟩
theorem nt_refl (h : NAt w p A cap l i) : NTo w p A cap l i w := ⟨h.na_box, Only.refl _ _ _⟩
theorem nt_bel (h : NAt w p A cap l i) (hb : Below w.heap.size w W2) : NTo w p A cap l i W2 := ⟨(hb.block p (lt_of_block h.na_box)).trans h.na_box, Only.of_below hb⟩
theorem nt_trans (h : NTo w p A cap l i w') (k : NTo w' p A cap l i' W2) : NTo w p A cap l i' W2 := ⟨k.nt_box, h.nt_only.trans k.nt_only⟩
theorem nt_keep (h : NTo w p A cap l i w') {q : Nat} {o : Obj} (hx : w.heap[q]? = some o) (hq : q ≠ p) : w'.heap[q]? = some o := (h.nt_only.block q (lt_of_block hx) hq hq).trans hx
theorem na_tok (h : NAt w p A cap l i) : ∃ g off, A = some ⟨g, off, none⟩ ∧ w.cell? ⟨g, off + i * 5, none⟩ = some (.int .i64 (tokOf l i).kind) ∧ w.cell? ⟨g, off + i * 5 + 1, none⟩ = some (.string (strOf (tokOf l i).s)) ∧ w.cell? ⟨g, off + i * 5 + 2, none⟩ = some (.int .u64 ((tokOf l i).n : Int)) ∧ w.cell? ⟨g, off + i * 5 + 3, none⟩ = some (.bool (tokOf l i).neg) ∧ w.cell? ⟨g, off + i * 5 + 4, none⟩ = some (.int .i64 ((tokOf l i).pos : Int)) := by
 have e := List.getElem?_eq_getElem h.na_in
 have ht : tokOf l i = l[i]'h.na_in := by unfold tokOf; rw [e]; rfl
 obtain ⟨g, off, ea, hc⟩ := h.na_toks.cells _ _ e
 rw [ht]
 exact ⟨g, off, ea, hc 0 _ rfl, hc 1 _ rfl, hc 2 _ rfl, hc 3 _ rfl, hc 4 _ rfl⟩
abbrev NCells (w : World) (p g off cap n i : Nat) (kd : Int) (ss : ByteArray) (tn : Nat) (tg : Bool) (tp : Nat) : Prop := w.cell? ⟨p, 0, none⟩ = some (.slice (some ⟨g, off, none⟩) n cap) ∧ w.cell? ⟨p, 1, none⟩ = some (.int .i64 (i : Int)) ∧ w.cell? ⟨g, off + i * 5, none⟩ = some (.int .i64 kd) ∧ w.cell? ⟨g, off + i * 5 + 1, none⟩ = some (.string ss) ∧ w.cell? ⟨g, off + i * 5 + 2, none⟩ = some (.int .u64 (tn : Int)) ∧ w.cell? ⟨g, off + i * 5 + 3, none⟩ = some (.bool tg) ∧ w.cell? ⟨g, off + i * 5 + 4, none⟩ = some (.int .i64 (tp : Int))
theorem na_cells {g off : Nat} (h : NAt w p (some ⟨g, off, none⟩) cap l i) (hb : Below w.heap.size w w') : NCells w' p g off cap l.length i (tokOf l i).kind (strOf (tokOf l i).s) (tokOf l i).n (tokOf l i).neg (tokOf l i).pos := by
 have h2 := na_bel h hb
 obtain ⟨_, _, e, k⟩ := na_tok h2
 cases e
 exact ⟨obj_cell h2.na_box 0, obj_cell h2.na_box 1, k⟩
end

set_option maxHeartbeats 4000000 in
theorem nhere_any {w : World} {p cap i : Nat} {A : Option Addr} {l : List Tk} (h : NAt w p A cap l i) :
 Calls Tryz.prog 55 #[.pointer (some ⟨p, 0, none⟩)] w fun e w' => e = .returned (.agg #[.int .i64 (tokOf l i).kind, .string (strOf (tokOf l i).s), .int .u64 ((tokOf l i).n : Int), .bool (tokOf l i).neg, .int .i64 ((tokOf l i).pos : Int)]) ∧ Below w.heap.size w w' := by
 obtain ⟨g, off, rfl, -⟩ := na_tok h
 have hl := h.na_toks.le
 have hm := h.na_toks.max
 have hin := h.na_in
 have HK := Lib.hid (fun w' (hb : Below w.heap.size w w') => na_cells h hb)
 obtain ⟨x, hx⟩ : ∃ x, x = tokOf l i := ⟨_, rfl⟩
 rw [← hx] at HK ⊢
 clear hx
 obtain ⟨kd, ts, tn, tg, tp⟩ := x
 dsimp only at HK ⊢
 obtain ⟨n, hn⟩ : ∃ n, n = l.length := ⟨_, rfl⟩
 rw [← hn] at HK hl hin
 have ti : decide ((i : Int) < (n : Int)) = true := decide_eq_true (by omega)
 obtain ⟨ss, hss⟩ : ∃ ss, ss = strOf ts := ⟨_, rfl⟩
 rw [← hss] at HK ⊢
 have HFR : Hid (Below w.heap.size w w.drew) := Lib.hid (drewN_under w 1)
 have HSS := Lib.hid hss
 clear h hn hss
 go_enter Tryz.func55, Tryz.ntmps55
 go_wp2
 go_region_held3 (fun w' => NCells w' p g off cap n i kd ss tn tg tp)
  (exact HK.out _ (by repeat' (first | with_reducible exact HFR.out | with_reducible exact HFR.out.size | with_reducible refine Below.drew ?_ | with_reducible refine Below.alloc ?_ ?_ _ | with_reducible refine Below.setCell ?_ ?_ _ | (simp; done) | with_reducible exact Below.refl _ _ | with_reducible exact Nat.le_refl _)))
  (first | fail)
 go_wp2
 refine bodyPost_ret (v := .agg #[.int .i64 kd, .string ss, .int .u64 (tn : Int), .bool tg, .int .i64 (tp : Int)]) ?_ rfl ⟨by rw [HSS.out], ?_⟩
 ·have hres : Tryz.f55.results = #[.cell 2 86] := by kernel_rfl
  simp only [results, hres]
  go_simp
 ·exact ((Below.refl _ w).alloc (Nat.le_refl _) _).drew
theorem box_on {w w1 : World} (hb : Below w.heap.size w w1) (o : Obj) : Below w.heap.size w (w1.alloc o) := hb.alloc hb.size o
set_option maxHeartbeats 4000000 in
theorem npass_any {w : World} {p cap i : Nat} {A : Option Addr} {l : List Tk} (h : NAt w p A cap l i) (hl : l.length ≤ 100000) :
 Calls Tryz.prog 243 #[.pointer (some ⟨p, 0, none⟩)] w fun e w' => e = .returned (.tuple #[]) ∧ NTo w p A cap l (i + 1) w' := by
 have r1 := obj_cell h.na_box 1
 have f1 := obj_free h.na_box 1
 have hin := h.na_in
 have hw : IntKind.i64.wrap ((i : Int) + 1) = (i : Int) + 1 := by rw [IntKind.wrap_i64]; omega
 have H := Lib.hid h
 clear h hl hin
 go_enter Tryz.func243, Tryz.ntmps243
 go_wp2
 go_end0
 exact ⟨rfl, ⟨(obj_set H.out.na_box 1 _).trans rfl, (Only.refl p p w).set (q := ⟨p, 1, none⟩) (.inl rfl) _⟩⟩
theorem nmust_any (b : Bool) (w : World) : Calls Tryz.prog 111 #[.bool b] w fun e w' => e = (if b = true then .returned (.tuple #[]) else .panicked [{ v := errV, recovered := false }]) ∧ w' = w := by
 go_enter Tryz.func111, Tryz.ntmps111
 cases b with
 | true => go_wp2; go_end0; exact ⟨rfl, rfl⟩
 | false => go_wp2; exact ⟨rfl, rfl, rfl⟩
/-- A token of that kind and text. -/
def isK (l : List Tk) (i : Nat) (kd : Int) (t : List UInt8) : Bool := decide ((tokOf l i).kind = kd) && decide ((tokOf l i).s = t)
def nxtK (l : List Tk) (i : Nat) (kd : Int) (t : List UInt8) : Nat := if isK l i kd t = true then i + 1 else i
set_option maxHeartbeats 4000000 in
theorem ntake_any {w : World} {p cap i : Nat} {A : Option Addr} {l : List Tk} (h : NAt w p A cap l i) (hl : l.length ≤ 100000) (kd : Int) (t : List UInt8) (st : ByteArray) (hst : st = strOf t) :
 Calls Tryz.prog 182 #[.pointer (some ⟨p, 0, none⟩), .int .i64 kd, .string st] w fun e w' => e = .returned (.bool (isK l i kd t)) ∧ NTo w p A cap l (nxtK l i kd t) w' := by
 have HC := Lib.hid (nhere_any h)
 have hq : ((strOf (tokOf l i).s).toList == st.toList) = decide ((tokOf l i).s = t) := by rw [hst]; exact strOf_beq _ _
 have HK : Hid (isK l i kd t = (decide ((tokOf l i).kind = kd) && decide ((tokOf l i).s = t))) := Lib.hid rfl
 have H := Lib.hid h
 have HL := Lib.hid hl
 obtain ⟨x, hx⟩ : ∃ x, x = tokOf l i := ⟨_, rfl⟩
 rw [← hx] at HC HK hq
 clear hx h hl hst
 obtain ⟨kx, ts, tn, tg, tp⟩ := x
 dsimp only at HC HK hq
 obtain ⟨ss, hss⟩ : ∃ ss, ss = strOf ts := ⟨_, rfl⟩
 rw [← hss] at HC hq
 clear hss
 obtain ⟨b, hb⟩ : ∃ b, b = decide (ts = t) := ⟨_, rfl⟩
 rw [← hb] at HK hq
 clear hb
 have hw : (kx = kd ∧ b = true) ∨ (kx = kd ∧ b = false) ∨ ¬ kx = kd := (Classical.em (kx = kd)).elim (fun h => by cases b; exact .inr (.inl ⟨h, rfl⟩); exact .inl ⟨h, rfl⟩) (fun h => .inr (.inr h))
 rcases hw with ⟨hk, rfl⟩ | ⟨hk, rfl⟩ | hk
 all_goals
  first
   | (have e2 : (kx != kd) = false := by rw [hk]; exact bne_self_eq_false' _
      rw [decide_eq_true hk, Bool.true_and] at HK)
   | (have e2 : (kx != kd) = true := by rw [bne, beq_false_of_ne hk]; rfl
      rw [decide_eq_false hk, Bool.false_and] at HK)
  clear hk
  go_enter Tryz.func182, Tryz.ntmps182
  go_wp2_with (first
   | (go_at_call 55; refine HC.out.mono ?_; rintro e w1 ⟨rfl, hb⟩; have HB := Lib.hid (box_on hb (.cells #[.int .i64 kx, .string ss, .int .u64 (tn : Int), .bool tg, .int .i64 (tp : Int)] 86)); clear HC hb)
   | (go_at_call 243; refine (npass_any (na_bel H.out HB.out) HL.out).mono ?_; rintro e w2 ⟨rfl, hn⟩))
  go_ret
  unfold nxtK
  rw [HK.out]
  first
   | exact ⟨rfl, nt_trans (nt_bel H.out HB.out) hn⟩
   | exact ⟨rfl, nt_bel H.out HB.out⟩
section
variable {w : World} {p cap i : Nat} {A : Option Addr} {l : List Tk}
theorem nword_any (h : NAt w p A cap l i) (hl : l.length ≤ 100000) (t : List UInt8) (st : ByteArray) (hst : st = strOf t) :
 Calls Tryz.prog 109 #[.pointer (some ⟨p, 0, none⟩), .string st] w fun e w' => e = .returned (.bool (isK l i 1 t)) ∧ NTo w p A cap l (nxtK l i 1 t) w' := by
 have HC := Lib.hid (ntake_any h hl 1 t st hst)
 clear h hl hst
 go_enter Tryz.func109, Tryz.ntmps109
 go_wp2_with (go_at_call 182; refine HC.out.mono ?_; rintro e w1 ⟨rfl, hb⟩)
 go_ret
 exact ⟨rfl, hb⟩
theorem nmark_any (h : NAt w p A cap l i) (hl : l.length ≤ 100000) (t : List UInt8) (st : ByteArray) (hst : st = strOf t) :
 Calls Tryz.prog 184 #[.pointer (some ⟨p, 0, none⟩), .string st] w fun e w' => e = .returned (.bool (isK l i 4 t)) ∧ NTo w p A cap l (nxtK l i 4 t) w' := by
 have HC := Lib.hid (ntake_any h hl 4 t st hst)
 clear h hl hst
 go_enter Tryz.func184, Tryz.ntmps184
 go_wp2_with (go_at_call 182; refine HC.out.mono ?_; rintro e w1 ⟨rfl, hb⟩)
 go_ret
 exact ⟨rfl, hb⟩
/-- A word of the grammar is no mark, a mark no word. -/
theorem isK_word (hg : GoodT l) (hi : i < l.length) {t : List UInt8} (ht : wordish t = true) : isK l i 1 t = isP l ⟨i, false⟩ t := by
 unfold isK isP
 by_cases h1 : (tokOf l i).kind = 1
 ·rw [decide_eq_true h1]; simp
 ·rw [decide_eq_false h1]
  by_cases h4 : (tokOf l i).kind = 4
  ·have := (hg i hi).2 h4
   have hn : ¬ (tokOf l i).s = t := fun e => by rw [e, ht] at this; cases this
   rw [decide_eq_false hn]; simp
  ·simp [decide_eq_false h4]
theorem isK_mark (hg : GoodT l) (hi : i < l.length) {t : List UInt8} (ht : wordish t = false) : isK l i 4 t = isP l ⟨i, false⟩ t := by
 unfold isK isP
 by_cases h4 : (tokOf l i).kind = 4
 ·rw [decide_eq_true h4]; simp
 ·rw [decide_eq_false h4]
  by_cases h1 : (tokOf l i).kind = 1
  ·have := (hg i hi).1 h1
   have hn : ¬ (tokOf l i).s = t := fun e => by rw [e, ht] at this; cases this
   rw [decide_eq_false hn]; simp
  ·simp [decide_eq_false h1]
end
set_option maxHeartbeats 4000000 in
theorem nname_any {w : World} {p cap i : Nat} {A : Option Addr} {l : List Tk} (h : NAt w p A cap l i) (hl : l.length ≤ 100000) :
 Calls Tryz.prog 183 #[.pointer (some ⟨p, 0, none⟩)] w fun e w' => Ends (nameP l ⟨i, false⟩).2 (.string (strOf (nameP l ⟨i, false⟩).1)) e ∧ NTo w p A cap l (nameP l ⟨i, false⟩).2.at_i w' := by
 have HC := Lib.hid (nhere_any h)
 have HK : Hid (nameP l ⟨i, false⟩ = if decide ((tokOf l i).kind ≠ 1) = true then ([], ⟨i, true⟩) else ((tokOf l i).s, ⟨i + 1, false⟩)) := Lib.hid rfl
 have H := Lib.hid h
 have HL := Lib.hid hl
 obtain ⟨x, hx⟩ : ∃ x, x = tokOf l i := ⟨_, rfl⟩
 rw [← hx] at HC HK
 clear hx h hl
 obtain ⟨kx, ts, tn, tg, tp⟩ := x
 dsimp only at HC HK
 obtain ⟨ss, hss⟩ : ∃ ss, ss = strOf ts := ⟨_, rfl⟩
 rw [← hss] at HC
 have HSS := Lib.hid hss
 clear hss
 by_cases h1 : kx = 1
 all_goals
  first
   | (have e2 : (kx == 1) = false := beq_false_of_ne h1
      rw [if_pos (decide_eq_true h1)] at HK
      clear h1)
   | (have e2 : (kx == 1) = true := by rw [h1]; rfl
      rw [if_neg (by simp [h1])] at HK
      clear h1)
  go_enter Tryz.func183, Tryz.ntmps183
  go_wp2_with (first
   | (go_at_call 55; refine HC.out.mono ?_; rintro e w1 ⟨rfl, hb⟩; have HB := Lib.hid (box_on hb (.cells #[.int .i64 kx, .string ss, .int .u64 (tn : Int), .bool tg, .int .i64 (tp : Int)] 86)); have HX := Lib.hid (heap_alloc_new w1 (.cells #[.int .i64 kx, .string ss, .int .u64 (tn : Int), .bool tg, .int .i64 (tp : Int)] 86)); have HQ : Hid (w1.heap.size ≠ p) := Lib.hid (Nat.ne_of_gt (Nat.lt_of_lt_of_le (lt_of_block H.out.na_box) hb.size)); clear HC hb)
   | (go_at_call 111; refine (nmust_any _ _).mono ?_; rintro e w2 ⟨rfl, rfl⟩)
   | (go_at_call 243; refine (npass_any (na_bel H.out HB.out) HL.out).mono ?_; rintro e w2 ⟨rfl, hn⟩; have c1 := obj_cell (nt_keep hn HX.out HQ.out) 1; have HN := Lib.hid hn; clear hn))
  first
   | (go_ret
      rw [HK.out]
      exact ⟨.inl ⟨rfl, by rw [← HSS.out]; rfl⟩, nt_trans (nt_bel H.out HB.out) HN.out⟩)
   | exact ⟨rfl, .inr ⟨by rw [HK.out], rfl⟩, by rw [HK.out]; exact nt_bel H.out HB.out⟩
set_option maxHeartbeats 4000000 in
theorem nnumber_any {w : World} {p cap i : Nat} {A : Option Addr} {l : List Tk} (h : NAt w p A cap l i) (hl : l.length ≤ 100000) :
 Calls Tryz.prog 244 #[.pointer (some ⟨p, 0, none⟩)] w fun e w' => Ends (numP l ⟨i, false⟩).2 (.int .i64 ((numP l ⟨i, false⟩).1 : Int)) e ∧ NTo w p A cap l (numP l ⟨i, false⟩).2.at_i w' := by
 have HC := Lib.hid (nhere_any h)
 have HK : Hid (numP l ⟨i, false⟩ = if (decide ((tokOf l i).kind ≠ 2) || (tokOf l i).neg || decide (1073741824 < (tokOf l i).n)) = true then (0, ⟨i, true⟩) else ((tokOf l i).n, ⟨i + 1, false⟩)) := Lib.hid rfl
 have H := Lib.hid h
 have HL := Lib.hid hl
 obtain ⟨x, hx⟩ : ∃ x, x = tokOf l i := ⟨_, rfl⟩
 rw [← hx] at HC HK
 clear hx h hl
 obtain ⟨kx, ts, tn, tg, tp⟩ := x
 dsimp only at HC HK
 obtain ⟨ss, hss⟩ : ∃ ss, ss = strOf ts := ⟨_, rfl⟩
 rw [← hss] at HC
 clear hss
 have hw : (¬ kx = 2) ∨ (kx = 2 ∧ tg = true) ∨ (kx = 2 ∧ tg = false ∧ 1073741824 < tn) ∨ (kx = 2 ∧ tg = false ∧ ¬ 1073741824 < tn) := by
  by_cases h1 : kx = 2 <;> by_cases h3 : 1073741824 < tn <;> cases tg <;> simp_all
 rcases hw with h1 | ⟨rfl, rfl⟩ | ⟨rfl, rfl, h3⟩ | ⟨rfl, rfl, h3⟩
 all_goals
  first
   | (have e2 : (kx == 2) = false := beq_false_of_ne h1
      rw [if_pos (by simp [h1])] at HK
      clear h1)
   | (have e4 : ¬ (tn : Int) ≤ 1073741824 := Int.not_le.mpr (Int.ofNat_lt.mpr h3)
      have e3 : decide ((tn : Int) ≤ 1073741824) = false := decide_eq_false e4
      rw [if_pos (by simp [h3])] at HK
      clear h3)
   | (have e4 : (tn : Int) ≤ 1073741824 := Int.ofNat_le.mpr (Nat.not_lt.mp h3)
      have e3 : decide ((tn : Int) ≤ 1073741824) = true := decide_eq_true e4
      rw [if_neg (by simp [h3])] at HK
      have e5 : wrap64 (tn : Int) = (tn : Int) := by unfold wrap64; omega
      have e6 : IntKind.i64.wrap (tn : Int) = (tn : Int) := by rw [IntKind.wrap_i64]; omega
      clear h3)
   | (rw [if_pos (by simp)] at HK
      have e2 := True.intro)
  go_enter Tryz.func244, Tryz.ntmps244
  go_wp2_with (first
   | (go_at_call 55; refine HC.out.mono ?_; rintro e w1 ⟨rfl, hb⟩; have HB := Lib.hid (box_on hb); have HX := Lib.hid (heap_alloc_new w1); have HQ : Hid (w1.heap.size ≠ p) := Lib.hid (Nat.ne_of_gt (Nat.lt_of_lt_of_le (lt_of_block H.out.na_box) hb.size)); clear HC hb)
   | (go_at_call 111; refine (nmust_any _ _).mono ?_; rintro e w2 ⟨rfl, rfl⟩)
   | (go_at_call 243; refine (npass_any (na_bel H.out (HB.out _)) HL.out).mono ?_; rintro e w2 ⟨rfl, hn⟩; have c1 := obj_cell (nt_keep hn (HX.out _) HQ.out) 2; have HN := Lib.hid hn; clear hn))
  first
   | (go_ret
      rw [HK.out]
      exact ⟨.inl ⟨rfl, rfl⟩, nt_trans (nt_bel H.out (HB.out _)) HN.out⟩)
   | exact ⟨rfl, .inr ⟨by rw [HK.out], rfl⟩, by rw [HK.out]; exact nt_bel H.out (HB.out _)⟩
end Go.Proofs.YtcjjphioeneiiaaGreatDoor
