/- Several texts in one: TpC, TpD, TpE. What each proves, and its conditions, stands at its own head. -/
import Derived.Test.YtakdkocobcicdaaPkTL19
import Derived.Test.YtakdkocobcicdaaPkTL6
import Derived.Laws.EntriesVeiled
import Derived.Shelf.Abstract
import Derived.Test.YtakdkocobcicdaaPkTL16
import Derived.Test.YtakdkocobcicdaaPkTL18
import Derived.Test.YtakdkocobcicdaaPkTL13
import Derived.Test.YtakdkocobcicdaaPkTL14
import Derived.Deep.RegionLaw
/- The program's Copy of trees. Conditions: those that each theorem names. -/
namespace Go.Proofs.Ytakdkocobcicdaa
open Go.RowKit
set_option linter.unusedVariables false
set_option maxRecDepth 100000

theorem tclone_any (s : ByteArray) (w : World) (hs : s.size ≤ 1000000) : Calls Try.prog 42 #[.string s] w fun e w' => e = .returned (.string s) ∧ Below w.heap.size w w' := by
  have H : Hid (∀ w, Calls Try.prog 54 #[.string s] w fun e w' => e = .returned (.string s) ∧ Below w.heap.size w w') := Lib.hid (fun w => Any.stringslite_Clone lcl_lays s w (by omega))
  clear hs
  go_enter Try.func42, Try.ntmps42
  go_wp2_with (go_at_call 54; refine (H.out _).mono ?_; rintro e w2 ⟨rfl, hb⟩)
  go_ret
  exact ⟨rfl, hb⟩
/-- A thing made anew: it reads as x, in blocks that were not there. -/
def Made {α : Type} (F : (Nat → Prop) → World → List Value → α → Prop) (w : World) (x : α) (e : Ending) (w' : World) : Prop := ∃ cs : List Value, e = .returned (.agg cs.toArray) ∧ F (New w.heap.size w') w' cs x ∧ Below w.heap.size w w'
theorem stay_set1 {S : Nat → Prop} {w : World} {r j : Nat} (u : Value) (h : ∀ g, S g → g ≠ r) : Stay S w (w.setCell ⟨r, j, none⟩ u) := fun p hp _ =>
  World.cell?_of_block (Below.heap_setCell _ _ _ _ (fun e => h _ hp e))
theorem stay_trans {S : Nat → Prop} {a b c : World} (h1 : Stay S a b) (h2 : Stay S b c) (hs : a.heap.size ≤ b.heap.size) : Stay S a c := fun p hp hl => (h2 p hp (Nat.lt_of_lt_of_le hl hs)).trans (h1 p hp hl)
theorem size_set (w : World) (p : Addr) (u : Value) : (w.setCell p u).heap.size = w.heap.size := by simp [World.setCell]
theorem tr_form {S : Nat → Prop} {q : Nat} {w : World} {cs : List Value} {x : Tr} (h : trR S q w cs x) : ∃ (m : Nat) (B1 : Option Addr) (k1 d1 : Nat) (B2 : Option Addr) (k2 d2 : Nat), cs = [.slice B1 k1 d1, .slice B2 k2 d2] ∧ trR S q w [.slice B1 k1 d1, .slice B2 k2 d2] x := by
  match q, h with
  | m + 1, ⟨A, na, ca, A2, nr, cr, e, h⟩ => exact ⟨m, A, na, ca, A2, nr, cr, e, A, na, ca, A2, nr, cr, rfl, h⟩
theorem va_form {S : Nat → Prop} {q : Nat} {w : World} {cs : List Value} {x : Va} (h : vaR (trR S q) S w cs x) : ∃ (N1 : Int) (S1 : ByteArray) (B1 : Option Addr) (K1 d1 : Nat), cs = [.int .u64 N1, .string S1, .slice B1 K1 d1] ∧ vaR (trR S q) S w [.int .u64 N1, .string S1, .slice B1 K1 d1] x := by
  obtain ⟨A, c, e, h⟩ := h
  exact ⟨_, _, _, _, _, e, A, c, rfl, h⟩
theorem sl_form {S : Nat → Prop} {q : Nat} {w : World} {cs : List Value} {x : Slt} (h : slR (trR S q) S w cs x) : ∃ (N1 : Int) (B1 : Option Addr) (K1 d1 : Nat), cs = [.int .i64 N1, .slice B1 K1 d1] ∧ slR (trR S q) S w [.int .i64 N1, .slice B1 K1 d1] x := by
  obtain ⟨A, c, e, h⟩ := h
  exact ⟨_, _, _, _, e, A, c, rfl, h⟩
theorem rw_form {w : World} {cs : List Value} {x : Rw} (h : rwR w cs x) : ∃ (N1 N2 N3 : Int) (S1 : ByteArray), cs = [.int .i64 N1, .int .i64 N2, .int .u64 N3, .string S1] ∧ rwR w [.int .i64 N1, .int .i64 N2, .int .u64 N3, .string S1] x :=
  ⟨_, _, _, _, h, rfl⟩

set_option maxHeartbeats 8000000 in
theorem each_tr {S : Nat → Prop} {q : Nat} (w : World) {A : Option Addr} {cap n : Nat} {l : List Tr} (h : KsAt S q w A cap l) (hn : n = l.length) (hm : n ≤ 1000) (kf : Nat) (caps : Array Value) (henter : Enters Try.prog kf)
    (hp : ∀ x ∈ l, ∀ cs u, trR S q u cs x → Below w.heap.size w u → Calls Try.prog kf (#[.agg cs.toArray] ++ caps) u (Made (fun S => trR S q) u x)) :
    Calls Try.prog 43 #[.slice A n cap, .func (.func kf) #[] caps] w fun e w' => ∃ A' c', e = .returned (.slice A' n c') ∧ Lst 2 (New w.heap.size w') ((fun S => trR S q) (New w.heap.size w')) w' A' c' l ∧ Below w.heap.size w w' := by
  have q1 : n ≤ cap := by have := h.l_le; omega
  have q2 := h.l_max
  unfold maxLen at q2
  have hent : ∀ (args : Array Value) (w : World), (callFunc kf args).run Try.prog w = .ok (.enter kf args) w := henter
  obtain ⟨it, t1, t2, t3, t4⟩ := info_ofs info_trs
  have HIT := Lib.hid (And.intro t1 (And.intro t2 (And.intro t3 t4)))
  have H := Lib.hid h
  have HN := Lib.hid hn
  have HP := Lib.hid hp
  have HL0 := Lib.hid (lv_start (fun S => trR S q) 25 2 (Below.refl w.heap.size w) (Nat.le_refl _))
  clear h hn hp henter t1 t2 t3 t4
  go_enter Try.func43, Try.ntmps43
  go_wp2
  go_loopw [5, 7, 10] (fun v u x wr => ∃ (i : Nat), x = .int .i64 (i : Int) ∧ i ≤ n ∧ LvAt (fun S => trR S q) w.heap.size w.heap.size 25 2 w wr v (l.take i)) (fun v u x _ => n - (intOf x).toNat)
  case atStart => exact ⟨0, rfl, Nat.zero_le _, HL0.out⟩
  case round =>
    obtain ⟨i, rfl, hi, hlv⟩ := hrel
    have HLV := Lib.hid hlv
    have hb0 := Lib.hid hlv.v_bel
    clear hlv
    by_cases hlt : i < n
    · have g1 : decide ((i : Int) < (n : Int)) = true := decide_eq_true (by omega)
      obtain ⟨x, hx⟩ : ∃ x, l[i]? = some x := ⟨_, List.getElem?_eq_getElem (by have := HN.out; omega)⟩
      have HTK := Lib.hid (take_snoc' hx)
      have HTL : Hid ((l.take i).length ≤ 100000) := Lib.hid (by rw [List.length_take]; omega)
      obtain ⟨m1, gf, of, A1, n1, c1, A2, n2, c2, hm1, rfl, _, hcf, hl1⟩ := kid_at H.out hx
      have HCK := Lib.hid (fun u (hb : Below w.heap.size w u) => HP.out x (List.mem_of_getElem? hx) [.slice A1 n1 c1, .slice A2 n2 c2] u (by rw [hm1]; exact ⟨_, _, _, _, _, _, rfl, trAt_bel hl1 hb⟩) hb)
      obtain ⟨p0, p1⟩ := hcf _ (stay_bel hb0.out)
      clear hx hcf hl1 hm1
      have HB1 : Hid (∀ o, Below w.heap.size w (wr.alloc o)) := Lib.hid (fun o => hb0.out.alloc hb0.out.size o)
      have HLA : Hid (∀ o, LvAt (fun S => trR S q) w.heap.size w.heap.size 25 2 w (wr.alloc o) _ (l.take i)) := Lib.hid (fun o => lv_bel (fam_tr q) HLV.out ((Below.refl _ wr).alloc (Nat.le_refl _) o) hb0.out.size)
      go_wp2_with (first
        | (go_at_fn kf; refine (HCK.out _ (HB1.out _)).mono ?_; rintro e w2 ⟨cs9, rfl, hF, hb9⟩; obtain ⟨m9, B1, k1, d1, B2, k2, d2, rfl, hF⟩ := tr_form hF; have HFF := Lib.hid hF; have HB9 := Lib.hid hb9; have HB2 := Lib.hid (bel_more (HB1.out _) hb9); clear hF hb9)
        | (at_builtin; refine wpList_append_x rfl _ _ rfl rfl rfl (lv_append (u1 := w2) (a := ⟨w2.heap.size, 0, none⟩) (cs := [.slice B1 k1 d1, .slice B2 k2 d2]) (x := x) (bytes := 48) (i := it) (fam_tr q) _ Try.underlying43 HIT.out.1 HIT.out.2.1 HIT.out.2.2.1 HIT.out.2.2.2 rfl (by decide) (HLA.out _) (Nat.le_refl _) HB9.out ((Below.refl _ w2).alloc (Nat.le_refl _) _) HFF.out rfl (by intro u hu; simp at hu; rcases hu with rfl | rfl <;> rfl) (fun j z hz => cells_new w2 #[.slice B1 k1 d1, .slice B2 k2 d2] 25 j z hz) HTL.out (by decide)) ?_; rintro v4 w4 ⟨hl4, -, ⟨A4, n4, c4, rfl⟩, -⟩; have HL4 := Lib.hid hl4; clear hl4))
      go_roundw
      case rel => exact ⟨i + 1, by go_num, by omega, by rw [HTK.out]; exact HL4.out⟩
      case measure => simp [intOf]; omega
    · have g1 : decide ((i : Int) < (n : Int)) = false := decide_eq_false (by omega)
      have HF : Hid (l.take i = l) := Lib.hid (List.take_of_length_le (by have := HN.out; omega))
      obtain ⟨A3, c3, hv3, hl3⟩ := lv_lst (fam_tr q) HLV.out
      rw [HF.out, ← HN.out] at hv3
      subst hv3
      have HL3 := Lib.hid hl3
      clear hl3
      go_wp2
      go_ret
      exact ⟨A3, c3, rfl, by have := HL3.out (New w.heap.size wr) (fun g a => a); rw [HF.out] at this; exact this, hb0.out⟩

set_option maxHeartbeats 8000000 in
theorem each_va {S : Nat → Prop} {q : Nat} (w : World) {A : Option Addr} {cap n : Nat} {l : List Va} (h : VsAt S q w A cap l) (hn : n = l.length) (hm : n ≤ 1000) (kf : Nat) (caps : Array Value) (henter : Enters Try.prog kf)
    (hp : ∀ x ∈ l, ∀ cs u, vaR (trR S q) S u cs x → Below w.heap.size w u → Calls Try.prog kf (#[.agg cs.toArray] ++ caps) u (Made (fun S => vaR (trR S q) S) u x)) :
    Calls Try.prog 45 #[.slice A n cap, .func (.func kf) #[] caps] w fun e w' => ∃ A' c', e = .returned (.slice A' n c') ∧ Lst 3 (New w.heap.size w') ((fun S => vaR (trR S q) S) (New w.heap.size w')) w' A' c' l ∧ Below w.heap.size w w' := by
  have q1 : n ≤ cap := by have := h.l_le; omega
  have q2 := h.l_max
  unfold maxLen at q2
  have hent : ∀ (args : Array Value) (w : World), (callFunc kf args).run Try.prog w = .ok (.enter kf args) w := henter
  obtain ⟨it, t1, t2, t3, t4⟩ := info_ofs info_val
  have HIT := Lib.hid (And.intro t1 (And.intro t2 (And.intro t3 t4)))
  have H := Lib.hid h
  have HN := Lib.hid hn
  have HP := Lib.hid hp
  have HL0 := Lib.hid (lv_start (fun S => vaR (trR S q) S) 45 3 (Below.refl w.heap.size w) (Nat.le_refl _))
  clear h hn hp henter t1 t2 t3 t4
  go_enter Try.func45, Try.ntmps45
  go_wp2
  go_loopw [5, 7, 10] (fun v u x wr => ∃ (i : Nat), x = .int .i64 (i : Int) ∧ i ≤ n ∧ LvAt (fun S => vaR (trR S q) S) w.heap.size w.heap.size 45 3 w wr v (l.take i)) (fun v u x _ => n - (intOf x).toNat)
  case atStart => exact ⟨0, rfl, Nat.zero_le _, HL0.out⟩
  case round =>
    obtain ⟨i, rfl, hi, hlv⟩ := hrel
    have HLV := Lib.hid hlv
    have hb0 := Lib.hid hlv.v_bel
    clear hlv
    by_cases hlt : i < n
    · have g1 : decide ((i : Int) < (n : Int)) = true := decide_eq_true (by omega)
      obtain ⟨x, hx⟩ : ∃ x, l[i]? = some x := ⟨_, List.getElem?_eq_getElem (by have := HN.out; omega)⟩
      have HTK := Lib.hid (take_snoc' hx)
      have HTL : Hid ((l.take i).length ≤ 100000) := Lib.hid (by rw [List.length_take]; omega)
      obtain ⟨gf, of, A1, c1, rfl, _, hcf, hl1⟩ := va_at H.out hx
      have HCK := Lib.hid (fun u (hb : Below w.heap.size w u) => HP.out x (List.mem_of_getElem? hx) [.int .u64 (x.vn : Int), .string (strOf x.vs), .slice A1 x.vm.length c1] u ⟨A1, c1, rfl, ksAt_bel hl1 hb⟩ hb)
      obtain ⟨n1, hn1⟩ : ∃ z, z = x.vm.length := ⟨_, rfl⟩
      obtain ⟨s1, hs1⟩ : ∃ z, z = strOf x.vs := ⟨_, rfl⟩
      obtain ⟨v1, hv1⟩ : ∃ z, z = (x.vn : Int) := ⟨_, rfl⟩
      rw [← hn1, ← hs1, ← hv1] at hcf
      rw [← hn1, ← hs1, ← hv1] at HCK
      obtain ⟨p0, p1, p2⟩ := hcf _ (stay_bel hb0.out)
      clear hx hcf hl1 hn1 hs1 hv1
      have HB1 : Hid (∀ o, Below w.heap.size w (wr.alloc o)) := Lib.hid (fun o => hb0.out.alloc hb0.out.size o)
      have HLA : Hid (∀ o, LvAt (fun S => vaR (trR S q) S) w.heap.size w.heap.size 45 3 w (wr.alloc o) _ (l.take i)) := Lib.hid (fun o => lv_bel (fam_va q) HLV.out ((Below.refl _ wr).alloc (Nat.le_refl _) o) hb0.out.size)
      go_wp2_with (first
        | (go_at_fn kf; refine (HCK.out _ (HB1.out _)).mono ?_; rintro e w2 ⟨cs9, rfl, hF, hb9⟩; obtain ⟨N1, S1, B1, K1, d1, rfl, hF⟩ := va_form hF; have HFF := Lib.hid hF; have HB9 := Lib.hid hb9; have HB2 := Lib.hid (bel_more (HB1.out _) hb9); clear hF hb9)
        | (at_builtin; refine wpList_append_x rfl _ _ rfl rfl rfl (lv_append (u1 := w2) (a := ⟨w2.heap.size, 0, none⟩) (cs := [.int .u64 N1, .string S1, .slice B1 K1 d1]) (x := x) (bytes := 48) (i := it) (fam_va q) _ Try.underlying30 HIT.out.1 HIT.out.2.1 HIT.out.2.2.1 HIT.out.2.2.2 rfl (by decide) (HLA.out _) (Nat.le_refl _) HB9.out ((Below.refl _ w2).alloc (Nat.le_refl _) _) HFF.out rfl (by intro u hu; simp at hu; rcases hu with rfl | rfl | rfl <;> rfl) (fun j z hz => cells_new w2 #[.int .u64 N1, .string S1, .slice B1 K1 d1] 45 j z hz) HTL.out (by decide)) ?_; rintro v4 w4 ⟨hl4, -, ⟨A4, n4, c4, rfl⟩, -⟩; have HL4 := Lib.hid hl4; clear hl4))
      go_roundw
      case rel => exact ⟨i + 1, by go_num, by omega, by rw [HTK.out]; exact HL4.out⟩
      case measure => simp [intOf]; omega
    · have g1 : decide ((i : Int) < (n : Int)) = false := decide_eq_false (by omega)
      have HF : Hid (l.take i = l) := Lib.hid (List.take_of_length_le (by have := HN.out; omega))
      obtain ⟨A3, c3, hv3, hl3⟩ := lv_lst (fam_va q) HLV.out
      rw [HF.out, ← HN.out] at hv3
      subst hv3
      have HL3 := Lib.hid hl3
      clear hl3
      go_wp2
      go_ret
      exact ⟨A3, c3, rfl, by have := HL3.out (New w.heap.size wr) (fun g a => a); rw [HF.out] at this; exact this, hb0.out⟩

set_option maxHeartbeats 8000000 in
theorem each_sl {S : Nat → Prop} {q : Nat} (w : World) {A : Option Addr} {cap n : Nat} {l : List Slt} (h : Lst 2 S (slR (trR S q) S) w A cap l) (hn : n = l.length) (hm : n ≤ 1000) (kf : Nat) (caps : Array Value) (henter : Enters Try.prog kf)
    (hp : ∀ x ∈ l, ∀ cs u, slR (trR S q) S u cs x → Below w.heap.size w u → Calls Try.prog kf (#[.agg cs.toArray] ++ caps) u (Made (fun S => slR (trR S q) S) u x)) :
    Calls Try.prog 48 #[.slice A n cap, .func (.func kf) #[] caps] w fun e w' => ∃ A' c', e = .returned (.slice A' n c') ∧ Lst 2 (New w.heap.size w') ((fun S => slR (trR S q) S) (New w.heap.size w')) w' A' c' l ∧ Below w.heap.size w w' := by
  have q1 : n ≤ cap := by have := h.l_le; omega
  have q2 := h.l_max
  unfold maxLen at q2
  have hent : ∀ (args : Array Value) (w : World), (callFunc kf args).run Try.prog w = .ok (.enter kf args) w := henter
  obtain ⟨it, t1, t2, t3, t4⟩ := info_ofs info_slt
  have HIT := Lib.hid (And.intro t1 (And.intro t2 (And.intro t3 t4)))
  have H := Lib.hid h
  have HN := Lib.hid hn
  have HP := Lib.hid hp
  have HL0 := Lib.hid (lv_start (fun S => slR (trR S q) S) 32 2 (Below.refl w.heap.size w) (Nat.le_refl _))
  clear h hn hp henter t1 t2 t3 t4
  go_enter Try.func48, Try.ntmps48
  go_wp2
  go_loopw [5, 7, 10] (fun v u x wr => ∃ (i : Nat), x = .int .i64 (i : Int) ∧ i ≤ n ∧ LvAt (fun S => slR (trR S q) S) w.heap.size w.heap.size 32 2 w wr v (l.take i)) (fun v u x _ => n - (intOf x).toNat)
  case atStart => exact ⟨0, rfl, Nat.zero_le _, HL0.out⟩
  case round =>
    obtain ⟨i, rfl, hi, hlv⟩ := hrel
    have HLV := Lib.hid hlv
    have hb0 := Lib.hid hlv.v_bel
    clear hlv
    by_cases hlt : i < n
    · have g1 : decide ((i : Int) < (n : Int)) = true := decide_eq_true (by omega)
      obtain ⟨x, hx⟩ : ∃ x, l[i]? = some x := ⟨_, List.getElem?_eq_getElem (by have := HN.out; omega)⟩
      have HTK := Lib.hid (take_snoc' hx)
      have HTL : Hid ((l.take i).length ≤ 100000) := Lib.hid (by rw [List.length_take]; omega)
      obtain ⟨gf, of, A1, c1, rfl, _, hcf, hl1⟩ := sl_at H.out hx
      have HCK := Lib.hid (fun u (hb : Below w.heap.size w u) => HP.out x (List.mem_of_getElem? hx) [.int .i64 x.snum, .slice A1 x.svals.length c1] u ⟨A1, c1, rfl, vsAt_bel hl1 hb⟩ hb)
      obtain ⟨n1, hn1⟩ : ∃ z, z = x.svals.length := ⟨_, rfl⟩
      obtain ⟨v1, hv1⟩ : ∃ z, z = x.snum := ⟨_, rfl⟩
      rw [← hn1, ← hv1] at hcf
      rw [← hn1, ← hv1] at HCK
      obtain ⟨p0, p1⟩ := hcf _ (stay_bel hb0.out)
      clear hx hcf hl1 hn1 hv1
      have HB1 : Hid (∀ o, Below w.heap.size w (wr.alloc o)) := Lib.hid (fun o => hb0.out.alloc hb0.out.size o)
      have HLA : Hid (∀ o, LvAt (fun S => slR (trR S q) S) w.heap.size w.heap.size 32 2 w (wr.alloc o) _ (l.take i)) := Lib.hid (fun o => lv_bel (fam_sl q) HLV.out ((Below.refl _ wr).alloc (Nat.le_refl _) o) hb0.out.size)
      go_wp2_with (first
        | (go_at_fn kf; refine (HCK.out _ (HB1.out _)).mono ?_; rintro e w2 ⟨cs9, rfl, hF, hb9⟩; obtain ⟨N1, B1, K1, d1, rfl, hF⟩ := sl_form hF; have HFF := Lib.hid hF; have HB9 := Lib.hid hb9; have HB2 := Lib.hid (bel_more (HB1.out _) hb9); clear hF hb9)
        | (at_builtin; refine wpList_append_x rfl _ _ rfl rfl rfl (lv_append (u1 := w2) (a := ⟨w2.heap.size, 0, none⟩) (cs := [.int .i64 N1, .slice B1 K1 d1]) (x := x) (bytes := 32) (i := it) (fam_sl q) _ Try.underlying22 HIT.out.1 HIT.out.2.1 HIT.out.2.2.1 HIT.out.2.2.2 rfl (by decide) (HLA.out _) (Nat.le_refl _) HB9.out ((Below.refl _ w2).alloc (Nat.le_refl _) _) HFF.out rfl (by intro u hu; simp at hu; rcases hu with rfl | rfl <;> rfl) (fun j z hz => cells_new w2 #[.int .i64 N1, .slice B1 K1 d1] 32 j z hz) HTL.out (by decide)) ?_; rintro v4 w4 ⟨hl4, -, ⟨A4, n4, c4, rfl⟩, -⟩; have HL4 := Lib.hid hl4; clear hl4))
      go_roundw
      case rel => exact ⟨i + 1, by go_num, by omega, by rw [HTK.out]; exact HL4.out⟩
      case measure => simp [intOf]; omega
    · have g1 : decide ((i : Int) < (n : Int)) = false := decide_eq_false (by omega)
      have HF : Hid (l.take i = l) := Lib.hid (List.take_of_length_le (by have := HN.out; omega))
      obtain ⟨A3, c3, hv3, hl3⟩ := lv_lst (fam_sl q) HLV.out
      rw [HF.out, ← HN.out] at hv3
      subst hv3
      have HL3 := Lib.hid hl3
      clear hl3
      go_wp2
      go_ret
      exact ⟨A3, c3, rfl, by have := HL3.out (New w.heap.size wr) (fun g a => a); rw [HF.out] at this; exact this, hb0.out⟩

set_option maxHeartbeats 8000000 in
theorem each_rw {S : Nat → Prop} {q : Nat} (w : World) {A : Option Addr} {cap n : Nat} {l : List Rw} (h : Lst 4 S rwR w A cap l) (hn : n = l.length) (hm : n ≤ 1000) (kf : Nat) (caps : Array Value) (henter : Enters Try.prog kf)
    (hp : ∀ x ∈ l, ∀ cs u, rwR u cs x → Below w.heap.size w u → Calls Try.prog kf (#[.agg cs.toArray] ++ caps) u (Made (fun _ => rwR) u x)) :
    Calls Try.prog 49 #[.slice A n cap, .func (.func kf) #[] caps] w fun e w' => ∃ A' c', e = .returned (.slice A' n c') ∧ Lst 4 (New w.heap.size w') ((fun _ => rwR) (New w.heap.size w')) w' A' c' l ∧ Below w.heap.size w w' := by
  have q1 : n ≤ cap := by have := h.l_le; omega
  have q2 := h.l_max
  unfold maxLen at q2
  have hent : ∀ (args : Array Value) (w : World), (callFunc kf args).run Try.prog w = .ok (.enter kf args) w := henter
  obtain ⟨it, t1, t2, t3, t4⟩ := info_ofs info_rws
  have HIT := Lib.hid (And.intro t1 (And.intro t2 (And.intro t3 t4)))
  have H := Lib.hid h
  have HN := Lib.hid hn
  have HP := Lib.hid hp
  have HL0 := Lib.hid (lv_start (fun _ => rwR) 65 4 (Below.refl w.heap.size w) (Nat.le_refl _))
  clear h hn hp henter t1 t2 t3 t4
  go_enter Try.func49, Try.ntmps49
  go_wp2
  go_loopw [5, 7, 10] (fun v u x wr => ∃ (i : Nat), x = .int .i64 (i : Int) ∧ i ≤ n ∧ LvAt (fun _ => rwR) w.heap.size w.heap.size 65 4 w wr v (l.take i)) (fun v u x _ => n - (intOf x).toNat)
  case atStart => exact ⟨0, rfl, Nat.zero_le _, HL0.out⟩
  case round =>
    obtain ⟨i, rfl, hi, hlv⟩ := hrel
    have HLV := Lib.hid hlv
    have hb0 := Lib.hid hlv.v_bel
    clear hlv
    by_cases hlt : i < n
    · have g1 : decide ((i : Int) < (n : Int)) = true := decide_eq_true (by omega)
      obtain ⟨x, hx⟩ : ∃ x, l[i]? = some x := ⟨_, List.getElem?_eq_getElem (by have := HN.out; omega)⟩
      have HTK := Lib.hid (take_snoc' hx)
      have HTL : Hid ((l.take i).length ≤ 100000) := Lib.hid (by rw [List.length_take]; omega)
      obtain ⟨gf, of, rfl, _, hcf⟩ := rw_at H.out hx
      have HCK := Lib.hid (fun u (hb : Below w.heap.size w u) => HP.out x (List.mem_of_getElem? hx) [.int .i64 x.num, .int .i64 x.wire, .int .u64 (x.n : Int), .string (strOf x.s)] u rfl hb)
      obtain ⟨s1, hs1⟩ : ∃ z, z = strOf x.s := ⟨_, rfl⟩
      obtain ⟨v1, hv1⟩ : ∃ z, z = x.num := ⟨_, rfl⟩
      obtain ⟨v2, hv2⟩ : ∃ z, z = x.wire := ⟨_, rfl⟩
      obtain ⟨v3, hv3⟩ : ∃ z, z = (x.n : Int) := ⟨_, rfl⟩
      rw [← hs1, ← hv1, ← hv2, ← hv3] at hcf
      rw [← hs1, ← hv1, ← hv2, ← hv3] at HCK
      obtain ⟨p0, p1, p2, p3⟩ := hcf _ (stay_bel hb0.out)
      clear hx hcf hs1 hv1 hv2 hv3
      have HB1 : Hid (∀ o, Below w.heap.size w (wr.alloc o)) := Lib.hid (fun o => hb0.out.alloc hb0.out.size o)
      have HLA : Hid (∀ o, LvAt (fun _ => rwR) w.heap.size w.heap.size 65 4 w (wr.alloc o) _ (l.take i)) := Lib.hid (fun o => lv_bel fam_rw HLV.out ((Below.refl _ wr).alloc (Nat.le_refl _) o) hb0.out.size)
      go_wp2_with (first
        | (go_at_fn kf; refine (HCK.out _ (HB1.out _)).mono ?_; rintro e w2 ⟨cs9, rfl, hF, hb9⟩; obtain ⟨N1, N2, N3, S1, rfl, hF⟩ := rw_form hF; have HFF := Lib.hid hF; have HB9 := Lib.hid hb9; have HB2 := Lib.hid (bel_more (HB1.out _) hb9); clear hF hb9)
        | (at_builtin; refine wpList_append_x rfl _ _ rfl rfl rfl (lv_append (u1 := w2) (a := ⟨w2.heap.size, 0, none⟩) (cs := [.int .i64 N1, .int .i64 N2, .int .u64 N3, .string S1]) (x := x) (bytes := 40) (i := it) fam_rw _ Try.underlying23 HIT.out.1 HIT.out.2.1 HIT.out.2.2.1 HIT.out.2.2.2 rfl (by decide) (HLA.out _) (Nat.le_refl _) HB9.out ((Below.refl _ w2).alloc (Nat.le_refl _) _) HFF.out rfl (by intro u hu; simp at hu; rcases hu with rfl | rfl | rfl | rfl <;> rfl) (fun j z hz => cells_new w2 #[.int .i64 N1, .int .i64 N2, .int .u64 N3, .string S1] 65 j z hz) HTL.out (by decide)) ?_; rintro v4 w4 ⟨hl4, -, ⟨A4, n4, c4, rfl⟩, -⟩; have HL4 := Lib.hid hl4; clear hl4))
      go_roundw
      case rel => exact ⟨i + 1, by go_num, by omega, by rw [HTK.out]; exact HL4.out⟩
      case measure => simp [intOf]; omega
    · have g1 : decide ((i : Int) < (n : Int)) = false := decide_eq_false (by omega)
      have HF : Hid (l.take i = l) := Lib.hid (List.take_of_length_le (by have := HN.out; omega))
      obtain ⟨A3, c3, hv3, hl3⟩ := lv_lst fam_rw HLV.out
      rw [HF.out, ← HN.out] at hv3
      subst hv3
      have HL3 := Lib.hid hl3
      clear hl3
      go_wp2
      go_ret
      exact ⟨A3, c3, rfl, by have := HL3.out (New w.heap.size wr) (fun g a => a); rw [HF.out] at this; exact this, hb0.out⟩
end Go.Proofs.Ytakdkocobcicdaa

/- The program's Copy of trees: its closures, and it. Conditions: those that each theorem names. -/
namespace Go.Proofs.Ytakdkocobcicdaa
open Go.RowKit
set_option linter.unusedVariables false
set_option maxRecDepth 100000

/-- The four closures of Copy, each in its box. -/
structure CpAt (pf pv ps pr : Nat) (u : World) : Prop where
  k_f : u.heap[pf]? = some (.cells #[.func (.func 47) #[] #[.pointer (some ⟨ps, 0, none⟩), .pointer (some ⟨pr, 0, none⟩)]] 37 (0, 0))
  k_v : u.heap[pv]? = some (.cells #[.func (.func 41) #[] #[.pointer (some ⟨pf, 0, none⟩)]] 61 (0, 0))
  k_s : u.heap[ps]? = some (.cells #[.func (.func 44) #[] #[.pointer (some ⟨pv, 0, none⟩)]] 63 (0, 0))
  k_r : u.heap[pr]? = some (.cells #[.func (.func 46) #[] #[]] 66 (0, 0))
theorem cp_bel {pf pv ps pr : Nat} {u u' : World} (h : CpAt pf pv ps pr u) (hb : Below u.heap.size u u') : CpAt pf pv ps pr u' :=
  ⟨(hb.block _ (lt_of_block h.k_f)).trans h.k_f, (hb.block _ (lt_of_block h.k_v)).trans h.k_v, (hb.block _ (lt_of_block h.k_s)).trans h.k_s, (hb.block _ (lt_of_block h.k_r)).trans h.k_r⟩
/-- What was made after the boxes is not touched when the answer's box is written. -/
theorem stay_res2 {u w' a : World} {r : Nat} (hr : r < u.heap.size) (v0 v1 : Value) : Stay (New u.heap.size a) w' ((w'.setCell ⟨r, 0, none⟩ v0).setCell ⟨r, 1, none⟩ v1) := stay_set2 v0 v1 (fun g hg => by have := hg.1; omega)
theorem stay_res3 {u w' a : World} {r : Nat} (hr : r < u.heap.size) (v0 v1 v2 : Value) : Stay (New u.heap.size a) w' (((w'.setCell ⟨r, 0, none⟩ v0).setCell ⟨r, 1, none⟩ v1).setCell ⟨r, 2, none⟩ v2) :=
  stay_trans (stay_res2 hr v0 v1) (stay_set1 v2 (fun g hg => by have := hg.1; omega)) (by rw [size_set, size_set]; exact Nat.le_refl _)

set_option maxHeartbeats 8000000 in
theorem prest_any (x : Rw) (hx : x.s.length ≤ 1000000) (w : World) : Calls Try.prog 46 #[.agg (rawCells x).toArray] w (Made (fun _ => rwR) w x) := by
  obtain ⟨num, wire, n, s⟩ := x
  dsimp only at hx
  have HC := Lib.hid (fun u => tclone_any (strOf s) u (by rw [st_size]; exact hx))
  show Calls _ _ #[.agg #[.int .i64 num, .int .i64 wire, .int .u64 (n : Int), .string (strOf s)]] w _
  obtain ⟨st, hst⟩ : ∃ z, z = strOf s := ⟨_, rfl⟩
  rw [← hst] at HC ⊢
  have HST := Lib.hid hst
  obtain ⟨nn, hnn⟩ : ∃ z, z = (n : Int) := ⟨_, rfl⟩
  rw [← hnn]
  have HNN := Lib.hid hnn
  have HBX := Lib.hid (bx2_start w #[.int .i64 num, .int .i64 wire, .int .u64 nn, .string st] #[.int .i64 0, .int .i64 0, .int .u64 0, .string ⟨#[]⟩] 65 65)
  have r3 := obj_cell (HBX.out).b2_one 3
  clear hst hnn hx
  go_enter Try.func46, Try.ntmps46
  go_wp2_with (go_at_call 42; refine (HC.out _).mono ?_; rintro e w2 ⟨rfl, hb⟩; replace HBX := Lib.hid (bx2_step HBX.out hb); have f3 := obj_free (HBX.out).b2_one 3; have y3 := obj_cell (HBX.out).b2_one 3; have HBY := Lib.hid (bx2_same HBX.out 3 (v := .string st) rfl); have p0 := obj_cell HBY.out.b2_one 0; have p1 := obj_cell HBY.out.b2_one 1; have p2 := obj_cell HBY.out.b2_one 2; have p3 := obj_cell HBY.out.b2_one 3; have z0 := obj_free HBY.out.b2_two 0; have z1 := obj_free HBY.out.b2_two 1; have z2 := obj_free HBY.out.b2_two 2; have z3 := obj_free HBY.out.b2_two 3; have v0 := obj_cell HBY.out.b2_two 0; have v1 := obj_cell HBY.out.b2_two 1; have v2 := obj_cell HBY.out.b2_two 2; have v3 := obj_cell HBY.out.b2_two 3; clear hb)
  have e0 := obj_set HBY.out.b2_two 0 (.int .i64 num)
  have e1 := obj_set e0 1 (.int .i64 wire)
  have e2 := obj_set e1 2 (.int .u64 nn)
  have e3 := obj_set e2 3 (.string st)
  have d0 := obj_cell e3 0
  have d1 := obj_cell e3 1
  have d2 := obj_cell e3 2
  have d3 := obj_cell e3 3
  refine bodyPost_ret (v := .agg #[.int .i64 num, .int .i64 wire, .int .u64 nn, .string st]) ?_ rfl ⟨[.int .i64 num, .int .i64 wire, .int .u64 nn, .string st], rfl, ?_, ?_⟩
  · have hres : Try.f46.results = #[.cell 2 65] := by kernel_rfl
    simp only [results, hres]
    go_simp
  · show _ = _
    rw [HNN.out, HST.out]
    rfl
  · exact (((HBY.out.b2_bel.setCell (p := ⟨w.heap.size + 1, 0, none⟩) (Nat.le_succ _) _).setCell (p := ⟨w.heap.size + 1, 1, none⟩) (Nat.le_succ _) _).setCell (p := ⟨w.heap.size + 1, 2, none⟩) (Nat.le_succ _) _).setCell (p := ⟨w.heap.size + 1, 3, none⟩) (Nat.le_succ _) _

def PCopy (k : Nat) : Prop := ∀ (pf pv ps pr : Nat) (S : Nat → Prop) (w : World) (A : Option Addr) (na ca : Nat) (A2 : Option Addr) (nr cr : Nat) (x : Tr), CpAt pf pv ps pr w → TrAt S k w A na ca A2 nr cr x → FitN (k + 1) x →
  Calls Try.prog 47 #[.agg #[.slice A na ca, .slice A2 nr cr], .pointer (some ⟨ps, 0, none⟩), .pointer (some ⟨pr, 0, none⟩)] w (Made (fun S => trR S (k + 1)) w x)

set_option maxHeartbeats 8000000 in
theorem pcval_any {S : Nat → Prop} {k pf pv ps pr : Nat} (H : ∀ q, k = q + 1 → PCopy q) (w : World) {x : Va} {cs : List Value} (hx : vaR (trR S k) S w cs x) (hf1 : x.vs.length ≤ 100000) (hf2 : x.vm.length ≤ 1000) (hf3 : ∀ u ∈ x.vm, FitN k u) (hcl : CpAt pf pv ps pr w) :
    Calls Try.prog 41 #[.agg cs.toArray, .pointer (some ⟨pf, 0, none⟩)] w (Made (fun S => vaR (trR S k) S) w x) := by
  obtain ⟨A, ca, rfl, hA⟩ := hx
  obtain ⟨xn, xs, xm⟩ := x
  dsimp only at hA hf1 hf2 hf3 ⊢
  obtain ⟨la, hla⟩ : ∃ z, z = xm.length := ⟨_, rfl⟩
  have HC := Lib.hid (fun u => tclone_any (strOf xs) u (by rw [st_size]; omega))
  obtain ⟨st, hst⟩ : ∃ z, z = strOf xs := ⟨_, rfl⟩
  obtain ⟨nn, hnn⟩ : ∃ z, z = (xn : Int) := ⟨_, rfl⟩
  rw [← hla, ← hst, ← hnn]
  rw [← hla] at hf2
  rw [← hst] at HC
  show Calls _ _ #[.agg #[.int .u64 nn, .string st, .slice A la ca], .pointer (some ⟨pf, 0, none⟩)] w _
  have HE := Lib.hid (fun u (hb : Below w.heap.size w u) => each_tr u (ksAt_bel hA hb) hla hf2 47 #[.pointer (some ⟨ps, 0, none⟩), .pointer (some ⟨pr, 0, none⟩)] (fun _ _ => rfl) (fun y hy cy v hcy hv => by
    match k, hcy with
    | k + 1, ⟨A1, n1, c1, A2, n2, c2, e1, h1⟩ =>
      subst e1
      exact H k rfl pf pv ps pr S v A1 n1 c1 A2 n2 c2 y (cp_bel (cp_bel hcl hb) hv) h1 (hf3 y hy)))
  have HCL := Lib.hid hcl
  have q1 : la ≤ ca := by have := hA.l_le; omega
  have q2 := hA.l_max
  unfold maxLen at q2
  have HBX0 := Lib.hid (bx2_start w #[.int .u64 nn, .string st, .slice A la ca] #[.int .u64 0, .string ⟨#[]⟩, .slice none 0 0] 45 45)
  have HBX := Lib.hid (bx2_drew1 HBX0.out)
  have HK : Hid (∀ u : World, u.heap[w.heap.size]? = some (.cells #[.int .u64 nn, .string st, .slice A la ca] 45 (0, 0)) → u.heap[pf]? = some (.cells #[.func (.func 47) #[] #[.pointer (some ⟨ps, 0, none⟩), .pointer (some ⟨pr, 0, none⟩)]] 37 (0, 0)) → u.cell? ⟨w.heap.size, 0, none⟩ = some (.int .u64 nn) ∧ u.cell? ⟨w.heap.size, 1, none⟩ = some (.string st) ∧ u.cell? ⟨w.heap.size, 2, none⟩ = some (.slice A la ca) ∧ u.cell? ⟨pf, 0, none⟩ = some (.func (.func 47) #[] #[.pointer (some ⟨ps, 0, none⟩), .pointer (some ⟨pr, 0, none⟩)])) := Lib.hid (fun u hb hc => ⟨obj_cell hb 0, obj_cell hb 1, obj_cell hb 2, obj_cell hc 0⟩)
  have hpf := lt_of_block hcl.k_f
  have HPF : Hid (∀ u, Below w.heap.size w u → u.heap[pf]? = some (.cells #[.func (.func 47) #[] #[.pointer (some ⟨ps, 0, none⟩), .pointer (some ⟨pr, 0, none⟩)]] 37 (0, 0))) := Lib.hid (fun u hb => (cp_bel hcl hb).k_f)
  obtain ⟨r0, r1, r2, r3⟩ := HK.out _ HBX0.out.b2_one (HPF.out _ HBX0.out.b2_bel)
  have HST := Lib.hid hst
  have HNN := Lib.hid hnn
  have HLA := Lib.hid hla
  clear hA hla hst hnn hcl H hf1 hf3
  go_enter Try.func41, Try.ntmps41
  go_wp2
  go_region_held3 (fun w' => w'.cell? ⟨w.heap.size, 0, none⟩ = some (.int .u64 nn) ∧ w'.cell? ⟨w.heap.size, 1, none⟩ = some (.string st) ∧ w'.cell? ⟨w.heap.size, 2, none⟩ = some (.slice A la ca) ∧ w'.cell? ⟨pf, 0, none⟩ = some (.func (.func 47) #[] #[.pointer (some ⟨ps, 0, none⟩), .pointer (some ⟨pr, 0, none⟩)]))
    (first | exact HK.out _ HBX.out.b2_one (HPF.out _ HBX.out.b2_bel) | exact HK.out _ (set_else (set_else (set_else HBX.out.b2_one (by show w.heap.size ≠ w.heap.size + 1; omega)) (by show w.heap.size ≠ w.heap.size + 1; omega)) (by show w.heap.size ≠ w.heap.size + 1; omega)) (set_else (set_else (set_else (HPF.out _ HBX.out.b2_bel) (by show pf ≠ w.heap.size + 1; omega)) (by show pf ≠ w.heap.size + 1; omega)) (by show pf ≠ w.heap.size + 1; omega)))
    (first
      | (go_at_call 42; refine (HC.out _).mono ?_; rintro e w2 ⟨rfl, hb⟩; replace HBX := Lib.hid (bx2_step HBX.out hb); clear hb)
      | (go_at_call 43; refine (HE.out _ HBX.out.b2_bel).mono ?_; rintro e w3 ⟨A5, c5, rfl, hl, hb⟩; have HL5 := Lib.hid hl; have HSZ : Hid (w.heap.size + 1 < w2.heap.size ∧ w2.heap.size ≤ w3.heap.size) := Lib.hid ⟨lt_of_block HBX.out.b2_two, hb.size⟩; replace HBX := Lib.hid (bx2_step HBX.out hb); have z0 := obj_cell (HBX.out).b2_two 0; have z1 := obj_cell (HBX.out).b2_two 1; have z2 := obj_cell (HBX.out).b2_two 2; have y0 := obj_free (HBX.out).b2_two 0; have y1 := obj_free (HBX.out).b2_two 1; have y2 := obj_free (HBX.out).b2_two 2; clear hl hb))
  go_wp2
  have e0 := obj_set HBX.out.b2_two 0 (.int .u64 nn)
  have e1 := obj_set e0 1 (.string st)
  have e2 := obj_set e1 2 (.slice A5 la c5)
  have d0 := obj_cell e2 0
  have d1 := obj_cell e2 1
  have d2 := obj_cell e2 2
  refine bodyPost_ret (v := .agg #[.int .u64 nn, .string st, .slice A5 la c5]) ?_ rfl ⟨[.int .u64 nn, .string st, .slice A5 la c5], rfl, ⟨A5, c5, by rw [HNN.out, HST.out, HLA.out], ?_⟩, ?_⟩
  · have hres : Try.f41.results = #[.cell 3 45] := by kernel_rfl
    simp only [results, hres]
    go_simp
  · have hs := stay_res3 (u := w2) (a := w3) (w' := w3) HSZ.out.1 (.int .u64 nn) (.string st) (.slice A5 la c5)
    have hz := HSZ.out.1
    have hS : ∀ g, New w2.heap.size w3 g → New w.heap.size (((w3.setCell ⟨w.heap.size + 1, 0, none⟩ (.int .u64 nn)).setCell ⟨w.heap.size + 1, 1, none⟩ (.string st)).setCell ⟨w.heap.size + 1, 2, none⟩ (.slice A5 la c5)) g := fun g hg => new_less (by omega) (new_set (new_set (new_set hg (by have := hg.1; show g ≠ w.heap.size + 1; omega)) (by have := hg.1; show g ≠ w.heap.size + 1; omega)) (by have := hg.1; show g ≠ w.heap.size + 1; omega))
    exact lst_keep HL5.out (trR_keep hS hs k) hS hs
  · exact ((HBX.out.b2_bel.setCell (p := ⟨w.heap.size + 1, 0, none⟩) (Nat.le_succ _) _).setCell (p := ⟨w.heap.size + 1, 1, none⟩) (Nat.le_succ _) _).setCell (p := ⟨w.heap.size + 1, 2, none⟩) (Nat.le_succ _) _

set_option maxHeartbeats 8000000 in
theorem pcslot_any {S : Nat → Prop} {k pf pv ps pr : Nat} (H : ∀ q, k = q + 1 → PCopy q) (w : World) {x : Slt} {cs : List Value} (hx : slR (trR S k) S w cs x) (hf1 : x.svals.length ≤ 1000) (hf2 : ∀ v ∈ x.svals, v.vs.length ≤ 100000 ∧ v.vm.length ≤ 1000 ∧ ∀ u ∈ v.vm, FitN k u) (hcl : CpAt pf pv ps pr w) :
    Calls Try.prog 44 #[.agg cs.toArray, .pointer (some ⟨pv, 0, none⟩)] w (Made (fun S => slR (trR S k) S) w x) := by
  obtain ⟨A, ca, rfl, hA⟩ := hx
  obtain ⟨xn, xv⟩ := x
  dsimp only at hA hf1 hf2 ⊢
  obtain ⟨la, hla⟩ : ∃ z, z = xv.length := ⟨_, rfl⟩
  rw [← hla]
  rw [← hla] at hf1
  show Calls _ _ #[.agg #[.int .i64 xn, .slice A la ca], .pointer (some ⟨pv, 0, none⟩)] w _
  have HE := Lib.hid (fun u (hb : Below w.heap.size w u) => each_va u (vsAt_bel hA hb) hla hf1 41 #[.pointer (some ⟨pf, 0, none⟩)] (fun _ _ => rfl) (fun y hy cy v hcy hv => pcval_any H v hcy (hf2 y hy).1 (hf2 y hy).2.1 (hf2 y hy).2.2 (cp_bel (cp_bel hcl hb) hv)))
  have HCL := Lib.hid hcl
  have q1 : la ≤ ca := by have := hA.l_le; omega
  have q2 := hA.l_max
  unfold maxLen at q2
  have HBX0 := Lib.hid (bx2_start w #[.int .i64 xn, .slice A la ca] #[.int .i64 0, .slice none 0 0] 32 32)
  have HBX := Lib.hid (bx2_drew1 HBX0.out)
  have HK : Hid (∀ u : World, u.heap[w.heap.size]? = some (.cells #[.int .i64 xn, .slice A la ca] 32 (0, 0)) → u.heap[pv]? = some (.cells #[.func (.func 41) #[] #[.pointer (some ⟨pf, 0, none⟩)]] 61 (0, 0)) → u.cell? ⟨w.heap.size, 0, none⟩ = some (.int .i64 xn) ∧ u.cell? ⟨w.heap.size, 1, none⟩ = some (.slice A la ca) ∧ u.cell? ⟨pv, 0, none⟩ = some (.func (.func 41) #[] #[.pointer (some ⟨pf, 0, none⟩)])) := Lib.hid (fun u hb hc => ⟨obj_cell hb 0, obj_cell hb 1, obj_cell hc 0⟩)
  have hpf := lt_of_block hcl.k_v
  have HPF : Hid (∀ u, Below w.heap.size w u → u.heap[pv]? = some (.cells #[.func (.func 41) #[] #[.pointer (some ⟨pf, 0, none⟩)]] 61 (0, 0))) := Lib.hid (fun u hb => (cp_bel hcl hb).k_v)
  obtain ⟨r0, r1, r3⟩ := HK.out _ HBX0.out.b2_one (HPF.out _ HBX0.out.b2_bel)
  have HLA := Lib.hid hla
  clear hA hla hcl H hf2
  go_enter Try.func44, Try.ntmps44
  go_wp2
  go_region_held3 (fun w' => w'.cell? ⟨w.heap.size, 0, none⟩ = some (.int .i64 xn) ∧ w'.cell? ⟨w.heap.size, 1, none⟩ = some (.slice A la ca) ∧ w'.cell? ⟨pv, 0, none⟩ = some (.func (.func 41) #[] #[.pointer (some ⟨pf, 0, none⟩)]))
    (first | exact HK.out _ HBX.out.b2_one (HPF.out _ HBX.out.b2_bel) | exact HK.out _ (set_else (set_else HBX.out.b2_one (by show w.heap.size ≠ w.heap.size + 1; omega)) (by show w.heap.size ≠ w.heap.size + 1; omega)) (set_else (set_else (HPF.out _ HBX.out.b2_bel) (by show pv ≠ w.heap.size + 1; omega)) (by show pv ≠ w.heap.size + 1; omega)))
    (first
      | (go_at_call 45; have HSZ0 := Lib.hid (lt_of_block HBX.out.b2_two); refine (HE.out _ HBX.out.b2_bel).mono ?_; rintro e w3 ⟨A5, c5, rfl, hl, hb⟩; have HL5 := Lib.hid hl; have HSZ := Lib.hid (And.intro HSZ0.out hb.size); replace HBX := Lib.hid (bx2_step HBX.out hb); have z0 := obj_cell (HBX.out).b2_two 0; have z1 := obj_cell (HBX.out).b2_two 1; have y0 := obj_free (HBX.out).b2_two 0; have y1 := obj_free (HBX.out).b2_two 1; clear hl hb))
  go_wp2
  have e0 := obj_set HBX.out.b2_two 0 (.int .i64 xn)
  have e1 := obj_set e0 1 (.slice A5 la c5)
  have d0 := obj_cell e1 0
  have d1 := obj_cell e1 1
  refine bodyPost_ret (v := .agg #[.int .i64 xn, .slice A5 la c5]) ?_ rfl ⟨[.int .i64 xn, .slice A5 la c5], rfl, ⟨A5, c5, by rw [HLA.out], ?_⟩, ?_⟩
  · have hres : Try.f44.results = #[.cell 3 32] := by kernel_rfl
    simp only [results, hres]
    go_simp
  · have h9 := HL5.out
    have hz := HSZ.out
    obtain ⟨u, hu⟩ : ∃ u, u = ((w.alloc (.cells #[.int .i64 xn, .slice A la ca] 32)).alloc (.cells #[.int .i64 0, .slice none 0 0] 32)).drew := ⟨_, rfl⟩
    rw [← hu] at h9 hz
    have hs := stay_res2 (u := u) (a := w3) (w' := w3) hz.1 (.int .i64 xn) (.slice A5 la c5)
    have hS : ∀ g, New u.heap.size w3 g → New w.heap.size ((w3.setCell ⟨w.heap.size + 1, 0, none⟩ (.int .i64 xn)).setCell ⟨w.heap.size + 1, 1, none⟩ (.slice A5 la c5)) g := fun g hg => new_less (by omega) (new_set (new_set hg (by have := hg.1; show g ≠ w.heap.size + 1; omega)) (by have := hg.1; show g ≠ w.heap.size + 1; omega))
    exact lst_keep h9 (vaR_keep (trR_keep hS hs k) hS hs) hS hs
  · exact (HBX.out.b2_bel.setCell (p := ⟨w.heap.size + 1, 0, none⟩) (Nat.le_succ _) _).setCell (p := ⟨w.heap.size + 1, 1, none⟩) (Nat.le_succ _) _

set_option maxHeartbeats 8000000 in
theorem pcopy_step {k : Nat} (H : ∀ q, k = q + 1 → PCopy q) : PCopy k := by
  intro pf pv ps pr S w A na ca A2 nr cr x hcl h hf
  obtain ⟨q1, q2, q3, q4⟩ := trAt_max h
  obtain ⟨f1, f2, f3, f4⟩ := hf
  rw [← h.t_ns] at f1
  rw [← h.t_nr] at f2
  have HE := Lib.hid (fun u (hb : Below w.heap.size w u) => each_sl u (trAt_bel h hb).t_s h.t_ns f1 44 #[.pointer (some ⟨pv, 0, none⟩)] (fun _ _ => rfl) (fun y hy cy v hcy hv => pcslot_any H v hcy (f4 y hy).1 (f4 y hy).2 (cp_bel (cp_bel hcl hb) hv)))
  have HR := Lib.hid (fun u (hb : Below w.heap.size w u) => each_rw (S := S) (q := 0) u (trAt_bel h hb).t_r h.t_nr f2 46 #[] (fun _ _ => rfl) (fun y hy cy v hcy hv => by
    have e : cy = rawCells y := hcy
    subst e
    exact prest_any y (by have := f3 y hy; omega) v))
  have HBX0 := Lib.hid (bx2_start w #[.slice A na ca, .slice A2 nr cr] #[.slice none 0 0, .slice none 0 0] 25 25)
  have HBX := Lib.hid (bx2_drew1 HBX0.out)
  have HK : Hid (∀ u : World, u.heap[w.heap.size]? = some (.cells #[.slice A na ca, .slice A2 nr cr] 25 (0, 0)) → u.heap[ps]? = some (.cells #[.func (.func 44) #[] #[.pointer (some ⟨pv, 0, none⟩)]] 63 (0, 0)) → u.heap[pr]? = some (.cells #[.func (.func 46) #[] #[]] 66 (0, 0)) → u.cell? ⟨w.heap.size, 0, none⟩ = some (.slice A na ca) ∧ u.cell? ⟨w.heap.size, 1, none⟩ = some (.slice A2 nr cr) ∧ u.cell? ⟨ps, 0, none⟩ = some (.func (.func 44) #[] #[.pointer (some ⟨pv, 0, none⟩)]) ∧ u.cell? ⟨pr, 0, none⟩ = some (.func (.func 46) #[] #[])) := Lib.hid (fun u hb hc hd => ⟨obj_cell hb 0, obj_cell hb 1, obj_cell hc 0, obj_cell hd 0⟩)
  have hps := lt_of_block hcl.k_s
  have hpr := lt_of_block hcl.k_r
  have HPS : Hid (∀ u, Below w.heap.size w u → u.heap[ps]? = some (.cells #[.func (.func 44) #[] #[.pointer (some ⟨pv, 0, none⟩)]] 63 (0, 0))) := Lib.hid (fun u hb => (cp_bel hcl hb).k_s)
  have HPR : Hid (∀ u, Below w.heap.size w u → u.heap[pr]? = some (.cells #[.func (.func 46) #[] #[]] 66 (0, 0))) := Lib.hid (fun u hb => (cp_bel hcl hb).k_r)
  obtain ⟨r0, r1, r2, r3⟩ := HK.out _ HBX0.out.b2_one (HPS.out _ HBX0.out.b2_bel) (HPR.out _ HBX0.out.b2_bel)
  have HA := Lib.hid (And.intro h.t_ns h.t_nr)
  have HSZ0 := Lib.hid (lt_of_block HBX.out.b2_two)
  clear h hcl H f3 f4
  go_enter Try.func47, Try.ntmps47
  go_wp2
  go_region_held3 (fun w' => w'.cell? ⟨w.heap.size, 0, none⟩ = some (.slice A na ca) ∧ w'.cell? ⟨w.heap.size, 1, none⟩ = some (.slice A2 nr cr) ∧ w'.cell? ⟨ps, 0, none⟩ = some (.func (.func 44) #[] #[.pointer (some ⟨pv, 0, none⟩)]) ∧ w'.cell? ⟨pr, 0, none⟩ = some (.func (.func 46) #[] #[]))
    (first | exact HK.out _ HBX.out.b2_one (HPS.out _ HBX.out.b2_bel) (HPR.out _ HBX.out.b2_bel) | exact HK.out _ (set_else (set_else HBX.out.b2_one (by show w.heap.size ≠ w.heap.size + 1; omega)) (by show w.heap.size ≠ w.heap.size + 1; omega)) (set_else (set_else (HPS.out _ HBX.out.b2_bel) (by show ps ≠ w.heap.size + 1; omega)) (by show ps ≠ w.heap.size + 1; omega)) (set_else (set_else (HPR.out _ HBX.out.b2_bel) (by show pr ≠ w.heap.size + 1; omega)) (by show pr ≠ w.heap.size + 1; omega)))
    (first
      | (go_at_call 48; refine (HE.out _ HBX.out.b2_bel).mono ?_; rintro e w2 ⟨A5, c5, rfl, hl, hb⟩; have HL5 := Lib.hid hl; have HSZ := Lib.hid (And.intro HSZ0.out hb.size); replace HBX := Lib.hid (bx2_step HBX.out hb); clear hl hb)
      | (go_at_call 49; refine (HR.out _ HBX.out.b2_bel).mono ?_; rintro e w3 ⟨A6, c6, rfl, hl, hb⟩; have HL6 := Lib.hid hl; have HB6 := Lib.hid hb; replace HBX := Lib.hid (bx2_step HBX.out hb); have z0 := obj_cell (HBX.out).b2_two 0; have z1 := obj_cell (HBX.out).b2_two 1; have y0 := obj_free (HBX.out).b2_two 0; have y1 := obj_free (HBX.out).b2_two 1; clear hl hb))
  go_wp2
  have e0 := obj_set HBX.out.b2_two 0 (.slice A5 na c5)
  have e1 := obj_set e0 1 (.slice A6 nr c6)
  have d0 := obj_cell e1 0
  have d1 := obj_cell e1 1
  refine bodyPost_ret (v := .agg #[.slice A5 na c5, .slice A6 nr c6]) ?_ rfl ⟨[.slice A5 na c5, .slice A6 nr c6], rfl, ⟨A5, na, c5, A6, nr, c6, rfl, ?_, ?_, HA.out.1, HA.out.2⟩, ?_⟩
  · have hres : Try.f47.results = #[.cell 4 25] := by kernel_rfl
    simp only [results, hres]
    go_simp
  · have h9 := HL5.out
    have hz := HSZ.out
    obtain ⟨u, hu⟩ : ∃ u, u = ((w.alloc (.cells #[.slice A na ca, .slice A2 nr cr] 25)).alloc (.cells #[.slice none 0 0, .slice none 0 0] 25)).drew := ⟨_, rfl⟩
    rw [← hu] at h9 hz
    have hs : Stay (New u.heap.size w2) w2 ((w3.setCell ⟨w.heap.size + 1, 0, none⟩ (.slice A5 na c5)).setCell ⟨w.heap.size + 1, 1, none⟩ (.slice A6 nr c6)) :=
      stay_trans (stay_bel HB6.out) (stay_res2 (u := u) (a := w2) (w' := w3) hz.1 (.slice A5 na c5) (.slice A6 nr c6)) HB6.out.size
    have hS : ∀ g, New u.heap.size w2 g → New w.heap.size ((w3.setCell ⟨w.heap.size + 1, 0, none⟩ (.slice A5 na c5)).setCell ⟨w.heap.size + 1, 1, none⟩ (.slice A6 nr c6)) g := fun g hg => new_less (by omega) (new_set (new_set (new_bel hg HB6.out) (by have := hg.1; show g ≠ w.heap.size + 1; omega)) (by have := hg.1; show g ≠ w.heap.size + 1; omega))
    exact lst_keep h9 (slR_keep (trR_keep hS hs k) hS hs) hS hs
  · have hz := HSZ.out
    obtain ⟨u, hu⟩ : ∃ u, u = ((w.alloc (.cells #[.slice A na ca, .slice A2 nr cr] 25)).alloc (.cells #[.slice none 0 0, .slice none 0 0] 25)).drew := ⟨_, rfl⟩
    rw [← hu] at hz
    have hs := stay_res2 (u := w2) (a := w3) (w' := w3) (r := w.heap.size + 1) (by omega) (.slice A5 na c5) (.slice A6 nr c6)
    have hS : ∀ g, New w2.heap.size w3 g → New w.heap.size ((w3.setCell ⟨w.heap.size + 1, 0, none⟩ (.slice A5 na c5)).setCell ⟨w.heap.size + 1, 1, none⟩ (.slice A6 nr c6)) g := fun g hg => new_less (by omega) (new_set (new_set hg (by have := hg.1; show g ≠ w.heap.size + 1; omega)) (by have := hg.1; show g ≠ w.heap.size + 1; omega))
    exact lst_keep HL6.out (fun _ _ h => h) hS hs
  · exact (HBX.out.b2_bel.setCell (p := ⟨w.heap.size + 1, 0, none⟩) (Nat.le_succ _) _).setCell (p := ⟨w.heap.size + 1, 1, none⟩) (Nat.le_succ _) _
theorem pcopy_any : ∀ k, PCopy k
  | 0 => pcopy_step (fun q h => by cases h)
  | k + 1 => pcopy_step (fun q h => by cases h; exact pcopy_any k)
end Go.Proofs.Ytakdkocobcicdaa

/- The program's Copy and Get of trees. Conditions: those that each theorem names. -/
namespace Go.Proofs.Ytakdkocobcicdaa
open Go.RowKit
set_option linter.unusedVariables false
set_option maxRecDepth 100000

theorem chain4 (u : World) (a b c d : Obj) : ((((u.alloc a).alloc b).alloc c).alloc d).heap[u.heap.size]? = some a ∧ ((((u.alloc a).alloc b).alloc c).alloc d).heap[u.heap.size + 1]? = some b ∧ ((((u.alloc a).alloc b).alloc c).alloc d).heap[u.heap.size + 1 + 1]? = some c ∧ ((((u.alloc a).alloc b).alloc c).alloc d).heap[u.heap.size + 1 + 1 + 1]? = some d := by
  have s1 : (u.alloc a).heap.size = u.heap.size + 1 := by simp
  have s2 : ((u.alloc a).alloc b).heap.size = u.heap.size + 1 + 1 := by simp
  have s3 : (((u.alloc a).alloc b).alloc c).heap.size = u.heap.size + 1 + 1 + 1 := by simp
  refine ⟨?_, ?_, ?_, ?_⟩
  · rw [Below.heap_alloc _ _ _ (by omega), Below.heap_alloc _ _ _ (by omega), Below.heap_alloc _ _ _ (by omega), heap_alloc_new]
  · rw [Below.heap_alloc _ _ _ (by omega), Below.heap_alloc _ _ _ (by omega), ← s1, heap_alloc_new]
  · rw [Below.heap_alloc _ _ _ (by omega), ← s2, heap_alloc_new]
  · rw [← s3, heap_alloc_new]
theorem bel_four (u : World) (a b c d : Obj) : Below u.heap.size u ((((u.alloc a).alloc b).alloc c).alloc d) := ((((Below.refl _ u).alloc (Nat.le_refl _) a).alloc (by simp) b).alloc (by simp; omega) c).alloc (by simp; omega) d
theorem cp_new (w : World) (a b : Obj) : CpAt (w.heap.size + 1 + 1) (w.heap.size + 1 + 1 + 1) (w.heap.size + 1 + 1 + 1 + 1) (w.heap.size + 1 + 1 + 1 + 1 + 1) ((((((w.alloc a).alloc b).alloc (.cells #[.func (.func 47) #[] #[.pointer (some ⟨w.heap.size + 1 + 1 + 1 + 1, 0, none⟩), .pointer (some ⟨w.heap.size + 1 + 1 + 1 + 1 + 1, 0, none⟩)]] 37)).alloc (.cells #[.func (.func 41) #[] #[.pointer (some ⟨w.heap.size + 1 + 1, 0, none⟩)]] 61)).alloc (.cells #[.func (.func 44) #[] #[.pointer (some ⟨w.heap.size + 1 + 1 + 1, 0, none⟩)]] 63)).alloc (.cells #[.func (.func 46) #[] #[]] 66)) := by
  have hz : ((w.alloc a).alloc b).heap.size = w.heap.size + 1 + 1 := by simp
  obtain ⟨h1, h2, h3, h4⟩ := chain4 ((w.alloc a).alloc b) (.cells #[.func (.func 47) #[] #[.pointer (some ⟨w.heap.size + 1 + 1 + 1 + 1, 0, none⟩), .pointer (some ⟨w.heap.size + 1 + 1 + 1 + 1 + 1, 0, none⟩)]] 37) (.cells #[.func (.func 41) #[] #[.pointer (some ⟨w.heap.size + 1 + 1, 0, none⟩)]] 61) (.cells #[.func (.func 44) #[] #[.pointer (some ⟨w.heap.size + 1 + 1 + 1, 0, none⟩)]] 63) (.cells #[.func (.func 46) #[] #[]] 66)
  rw [hz] at h1 h2 h3 h4
  exact ⟨h1, h2, h3, h4⟩

set_option maxHeartbeats 8000000 in
theorem pcopytree_any {S : Nat → Prop} {k : Nat} (w : World) {A : Option Addr} {na ca : Nat} {A2 : Option Addr} {nr cr : Nat} {x : Tr} (h : TrAt S k w A na ca A2 nr cr x) (hf : FitN (k + 1) x) :
    Calls Try.prog 21 #[.agg #[.slice A na ca, .slice A2 nr cr]] w (CopyTo k w x) := by
  obtain ⟨a, ha⟩ : ∃ a, a = Obj.cells #[.slice A na ca, .slice A2 nr cr] 25 (0, 0) := ⟨_, rfl⟩
  obtain ⟨b, hb⟩ : ∃ b, b = Obj.cells #[.slice none 0 0, .slice none 0 0] 25 (0, 0) := ⟨_, rfl⟩
  have HCL := Lib.hid (cp_new w a b)
  have HB2 : Hid (Bx2 w ((w.alloc a).alloc b) a b) := Lib.hid (by rw [ha, hb]; exact bx2_start _ _ _ _ _)
  have HBE : Hid (∀ c d e f, Bx2 w (((((w.alloc a).alloc b).alloc c).alloc d).alloc e |>.alloc f) a b) := Lib.hid (fun c d e f => bx2_step HB2.out (bel_four _ c d e f))
  have HS : Hid (∀ u pf pv ps pr, CpAt pf pv ps pr u → Below w.heap.size w u → Calls Try.prog 47 #[.agg #[.slice A na ca, .slice A2 nr cr], .pointer (some ⟨ps, 0, none⟩), .pointer (some ⟨pr, 0, none⟩)] u (Made (fun S => trR S (k + 1)) u x)) := Lib.hid (fun u pf pv ps pr hcl hbu => pcopy_any k pf pv ps pr S u _ _ _ _ _ _ x hcl (trAt_bel h hbu) hf)
  rw [ha, hb] at HCL HBE
  clear h hf ha hb HB2
  go_enter Try.func21, Try.ntmps21
  go_wp2_with (go_at_call 47; refine (HS.out _ _ _ _ _ HCL.out (HBE.out _ _ _ _).b2_bel).mono ?_; rintro e w2 ⟨cs9, rfl, hF, hb9⟩; obtain ⟨B1, k1, d1, B2, k2, d2, rfl, hT⟩ := hF; have HT := Lib.hid hT; have HZ2 := Lib.hid hb9.size; have HBX := Lib.hid (bx2_step (HBE.out _ _ _ _) hb9); have z0 := obj_cell (HBX.out).b2_two 0; have z1 := obj_cell (HBX.out).b2_two 1; have y0 := obj_free (HBX.out).b2_two 0; have y1 := obj_free (HBX.out).b2_two 1; clear hT hb9)
  have e0 := obj_set HBX.out.b2_two 0 (.slice B1 k1 d1)
  have e1 := obj_set e0 1 (.slice B2 k2 d2)
  have f0 := obj_cell e1 0
  have f1 := obj_cell e1 1
  refine bodyPost_ret (v := .agg #[.slice B1 k1 d1, .slice B2 k2 d2]) ?_ rfl ⟨B1, k1, d1, B2, k2, d2, rfl, ?_, ?_⟩
  · have hres : Try.f21.results = #[.cell 2 25] := by kernel_rfl
    simp only [results, hres]
    go_simp
  · have h9 := HT.out
    have hz2 := HZ2.out
    obtain ⟨u, hu⟩ : ∃ u, u = ((((((w.alloc (.cells #[.slice A na ca, .slice A2 nr cr] 25)).alloc (.cells #[.slice none 0 0, .slice none 0 0] 25)).alloc (.cells #[.func (.func 47) #[] #[.pointer (some ⟨w.heap.size + 1 + 1 + 1 + 1, 0, none⟩), .pointer (some ⟨w.heap.size + 1 + 1 + 1 + 1 + 1, 0, none⟩)]] 37)).alloc (.cells #[.func (.func 41) #[] #[.pointer (some ⟨w.heap.size + 1 + 1, 0, none⟩)]] 61)).alloc (.cells #[.func (.func 44) #[] #[.pointer (some ⟨w.heap.size + 1 + 1 + 1, 0, none⟩)]] 63)).alloc (.cells #[.func (.func 46) #[] #[]] 66)) := ⟨_, rfl⟩
    rw [← hu] at h9 hz2
    have hz : w.heap.size + 1 < u.heap.size := by rw [hu]; exact lt_of_block (HBE.out _ _ _ _).b2_two
    exact trAt_keep h9 (fun g hg => new_less (by omega) (new_set (new_set hg (by have := hg.1; show g ≠ w.heap.size + 1; omega)) (by have := hg.1; show g ≠ w.heap.size + 1; omega))) (stay_res2 (u := u) (a := w2) (w' := w2) hz (.slice B1 k1 d1) (.slice B2 k2 d2))
  · exact (HBX.out.b2_bel.setCell (p := ⟨w.heap.size + 1, 0, none⟩) (Nat.le_succ _) _).setCell (p := ⟨w.heap.size + 1, 1, none⟩) (Nat.le_succ _) _

/-- A tree of one slot, handed over as a literal. -/
theorem tr_one {S : Nat → Prop} {k : Nat} {u : World} {g : Nat} {num : Int} {A1 : Option Addr} {n1 c1 : Nat} {vals : List Va} (hg : u.heap[g]? = some (.cells #[.int .i64 num, .slice A1 n1 c1] 32 (0, 0))) (hn : n1 = vals.length) (hv : VsAt S k u A1 c1 vals) :
    TrAt (fun _ => True) k u (some ⟨g, 0, none⟩) 1 1 none 0 0 (.mk [⟨num, vals⟩] []) := by
  refine ⟨⟨Nat.le_refl _, by decide, (fun h => by cases h), fun j x hx => ?_⟩, lst_empty _ _ _ (by decide) (fun _ => rfl), rfl, rfl⟩
  match j, hx with
  | 0, hx =>
    have e : x = ⟨num, vals⟩ := by
      have : [(⟨num, vals⟩ : Slt)][0]? = some x := hx
      simpa using this.symm
    subst e
    refine ⟨g, 0, [.int .i64 num, .slice A1 n1 c1], rfl, trivial, rfl, ⟨A1, c1, by rw [hn], vsAt_keep hv (fun _ _ => trivial) (stay_refl _ _)⟩, fun i z hz => ?_⟩
    rw [show 0 + 0 * 2 + i = i by omega]
    exact (obj_cell hg i).trans (by simpa using hz)
  | j + 1, hx => exact absurd hx (by simp [Tr.slots])
theorem fit_one {k : Nat} {num : Int} {vals : List Va} (h1 : vals.length ≤ 1000) (h2 : ∀ v ∈ vals, v.vs.length ≤ 100000 ∧ v.vm.length ≤ 1000 ∧ ∀ u ∈ v.vm, FitN k u) : FitN (k + 1) (.mk [⟨num, vals⟩] []) :=
  ⟨by simp [Tr.slots], by simp [Tr.rest], fun r hr => by simp [Tr.rest] at hr, fun s hs => by
    have : s = ⟨num, vals⟩ := by simpa [Tr.slots] using hs
    subst this
    exact ⟨h1, h2⟩⟩

set_option maxHeartbeats 8000000 in
theorem pget_any {S : Nat → Prop} {k : Nat} (w : World) {A : Option Addr} {na ca : Nat} {A2 : Option Addr} {nr cr : Nat} {x : Tr} (num : Int) (h : TrAt S k w A na ca A2 nr cr x) (hf : FitN (k + 1) x) :
    Calls Try.prog 17 #[.agg #[.slice A na ca, .slice A2 nr cr], .int .i64 num] w fun e w' => ∃ A1 n1 c1, e = .returned (.slice A1 n1 c1) ∧ n1 = (getT x.slots num).length ∧ VsAt (fun _ => True) k w' A1 c1 (getT x.slots num) ∧ Below w.heap.size w w' := by
  obtain ⟨q1, q2, q3, q4⟩ := trAt_max h
  obtain ⟨f1, f2, f3, f4⟩ := hf
  have HA := Lib.hid h
  have HF4 := Lib.hid f4
  have HBX := Lib.hid (bx_start w #[.slice A na ca, .slice A2 nr cr] 25)
  have r0 := obj_cell (HBX.out).b_blk 0
  have r1 := obj_cell (HBX.out).b_blk 1
  have hfld : ∀ (a b : Value) (w : World), (Instr.field 25 (.agg #[a, b]) 0).run Try.prog w = .ok a w := fun a b w => by kernel_rfl
  clear h f3 f4
  go_enter Try.func17, Try.ntmps17
  go_wp2
  clear r0 r1
  go_loopg [6, 10] na (fun gz u x0 wr => ∃ i : Nat, x0 = .int .i64 (i : Int) ∧ i + gz = na ∧ (∀ (j : Nat) (y : Slt), j < i → x.slots[j]? = some y → y.snum ≠ num) ∧ Below w.heap.size w wr)
  case atStart => exact ⟨0, rfl, by omega, fun j x hj => absurd hj (Nat.not_lt_zero _), HBX.out.b_bel⟩
  case round =>
    obtain ⟨i, rfl, hi, hall, hbl⟩ := hrel
    have HALL := Lib.hid hall
    have HBL := Lib.hid hbl
    clear hall hbl
    obtain ⟨g0, hg0⟩ : ∃ g0, g0 = gk := ⟨_, rfl⟩
    subst hg0
    by_cases hlti : i < na
    · have ti : decide ((i : Int) < (na : Int)) = true := decide_eq_true (by omega)
      obtain ⟨s, hs⟩ : ∃ s, x.slots[i]? = some s := ⟨_, List.getElem?_eq_getElem (by have := HA.out.t_ns; omega)⟩
      obtain ⟨ga, oa, A1, c1, rfl, _, hca, hva⟩ := sl_at HA.out.t_s hs
      obtain ⟨a0, a1⟩ := hca _ (stay_bel HBL.out)
      have HSI := Lib.hid hs
      obtain ⟨y1, y2⟩ := HF4.out s (List.mem_of_getElem? hs)
      obtain ⟨sn, sv⟩ := s
      dsimp only at hca hva y1 y2 a0 a1
      obtain ⟨nv, hnv⟩ : ∃ z, z = sv.length := ⟨_, rfl⟩
      rw [← hnv] at a1
      have HNV := Lib.hid hnv
      by_cases e : sn = num
      · subst e
        have t1 : (sn == sn) = true := beq_self_eq_true _
        have HG : Hid (getT x.slots sn = sv) := Lib.hid (getT_at HSI.out rfl HALL.out)
        have HB2 : Hid (∀ o p, Below w.heap.size w ((wr.alloc o).alloc p)) := Lib.hid (fun o p => (HBL.out.alloc HBL.out.size o).alloc (HBL.out.alloc HBL.out.size o).size p)
        have HC : Hid (∀ o, Calls Try.prog 21 #[.agg #[.slice (some ⟨(wr.alloc o).heap.size, 0, none⟩) 1 1, .slice none 0 0]] ((wr.alloc o).alloc (.cells #[.int .i64 sn, .slice A1 nv c1] 32)) (CopyTo k ((wr.alloc o).alloc (.cells #[.int .i64 sn, .slice A1 nv c1] 32)) (.mk [⟨sn, sv⟩] []))) := Lib.hid (fun o => pcopytree_any _ (tr_one (heap_alloc_new _ _) hnv (vsAt_bel hva (HB2.out _ _))) (fit_one y1 y2))
        have hsz : ∀ o : Obj, (wr.alloc o).heap.size = wr.heap.size + 1 := fun o => by simp
        have HC2 : Hid (∀ o, Calls Try.prog 21 #[.agg #[.slice (some ⟨wr.heap.size + 1, 0, none⟩) 1 1, .slice none 0 0]] ((wr.alloc o).alloc (.cells #[.int .i64 sn, .slice A1 nv c1] 32)) (CopyTo k ((wr.alloc o).alloc (.cells #[.int .i64 sn, .slice A1 nv c1] 32)) (.mk [⟨sn, sv⟩] []))) := Lib.hid (fun o => by have := HC.out o; rw [hsz o] at this; exact this)
        clear hs hca hva hnv y1 y2 HC hsz
        go_wp2_with (go_at_call 21; refine (HC2.out _).mono ?_; rintro e w2 ⟨B, nb, cb, B2, n2, c2, rfl, hT, hb9⟩; have hnb : nb = 1 := hT.t_ns; subst hnb; have q8 := (trAt_max hT).1; have q9 := (trAt_max hT).2.1; obtain ⟨gz, oz, A3, c3, rfl, -, hcz, hvz⟩ := sl_at hT.t_s (i := 0) (x := ⟨sn, sv⟩) rfl; have HVZ := Lib.hid hvz; obtain ⟨m0, m1⟩ := hcz _ (stay_refl _ _); dsimp only at m0 m1; rw [← HNV.out] at m1; have HB9 := Lib.hid (bel_more (HB2.out _ _) hb9); clear hT hb9 hcz hvz)
        go_ret
        exact ⟨A3, nv, c3, rfl, by rw [HG.out, HNV.out], by rw [HG.out]; exact vsAt_keep HVZ.out (fun _ _ => trivial) (stay_refl _ _), HB9.out⟩
      · have t1 : (sn == num) = false := beq_false_of_ne e
        have HB1 : Hid (∀ o, Below w.heap.size w (wr.alloc o)) := Lib.hid (fun o => HBL.out.alloc HBL.out.size o)
        clear hs hca hva hnv y1 y2
        go_wp2
        go_roundg (g0 - 1)
        case measure => omega
        case rel => exact ⟨i + 1, by go_num, by omega, (fun j y hj hy => by
              by_cases hjq : j < i
              · exact HALL.out j y hjq hy
              · have : j = i := by omega
                subst this
                have e1 := HSI.out.symm.trans hy
                injection e1 with e1
                rw [← e1]
                exact e), HB1.out _⟩
    · have ti : decide ((i : Int) < (na : Int)) = false := decide_eq_false (by omega)
      have HG : Hid (getT x.slots num = []) := Lib.hid (getT_none (fun j y hy => HALL.out j y (by have := (List.getElem?_eq_some_iff.mp hy).1; have := HA.out.t_ns; omega) hy))
      go_wp2
      go_ret
      exact ⟨none, 0, 0, rfl, by rw [HG.out]; rfl, by rw [HG.out]; exact lst_empty _ _ _ (by decide) (fun _ => rfl), HBL.out⟩
end Go.Proofs.Ytakdkocobcicdaa
