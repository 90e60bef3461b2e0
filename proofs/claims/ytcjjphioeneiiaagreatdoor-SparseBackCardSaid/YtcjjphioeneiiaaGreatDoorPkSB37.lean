/- Several texts in one: PnG, PnH. What each proves, and its conditions, stands at its own head. -/
import Derived.Test.YtcjjphioeneiiaaGreatDoorPkSB36
import Derived.Test.YtcjjphioeneiiaaGreatDoorPkSB33
import Derived.Test.YtcjjphioeneiiaaGreatDoorPkSB34
import Derived.Defers
import Derived.Recover
import Derived.Laws.Pointers
/- The landed layer 18: what the whole text tells, but for its types: enums and messages as they come. Conditions: those that each theorem names. -/
namespace Go.Proofs.YtcjjphioeneiiaaGreatDoor
open Go.RowKit
set_option linter.unusedVariables false
set_option maxRecDepth 100000

def scz : Array Value := #[.slice none 0 0, .slice none 0 0]
/-- A schema under way. -/
structure SNo (w wr : World) (p ob : Nat) (A : Option Addr) (cap : Nat) (l : List Tk) (j : Nat) (ve vm : Value) (es : List CE) (ms : List CM) : Prop where
 sn_s : NOw w wr p A cap l j ob 26 scz #[ve, vm]
 sn_c : Cpy wr ob w.heap.size ve vm es ms
 sn_a : ApartM ms
section
variable {w wr w' W2 : World} {p ob cap j j' : Nat} {A : Option Addr} {l : List Tk} {ve vm v2 : Value} {es : List CE} {ms : List CM}
theorem sno_call (h : SNo w wr p ob A cap l j ve vm es ms) (hn : NTo wr p A cap l j' w') (hj : j' < l.length) : SNo w w' p ob A cap l j' ve vm es ms := by
 have hp := h.sn_s.ns_p
 have hs := ns_call h.sn_s hn hj
 exact ⟨hs, ⟨hs.ns_b, own_nt h.sn_c.c_e hn hp, own_nt h.sn_c.c_m hn hp, fun x hx => typed_nt (h.sn_c.c_v x hx) hn hp vlR_keep, fun x hx => typed_nt (h.sn_c.c_f x hx) hn hp fdR_keep, fun x hx => typed_nt (h.sn_c.c_b x hx) hn hp (fun _ _ h => h)⟩, h.sn_a⟩
theorem sno_bel (h : SNo w wr p ob A cap l j ve vm es ms) (hb : Below wr.heap.size wr W2) : SNo w W2 p ob A cap l j ve vm es ms := ⟨ns_up h.sn_s hb, cpy_bel h.sn_c hb, h.sn_a⟩
theorem lst_less {α : Type} {kk k b base c : Nat} {R : World → List Value → α → Prop} {A5 : Option Addr} {es : List α} (h : Lst kk (Typed base wr k) R wr A5 c es) (hb : b ≤ base) : Lst kk (Typed b wr k) R wr A5 c es :=
 ⟨h.l_le, h.l_max, h.l_nil, fun j x hj => by obtain ⟨g, off, cs, e, hs, r⟩ := h.l_at j x hj; exact ⟨g, off, cs, e, ⟨Nat.le_trans hb hs.1, hs.2⟩, r⟩⟩
theorem sno_enum (h : SNo w wr p ob A cap l j ve vm es ms) (x : CE) (hx : Lst 2 (Typed w.heap.size wr 0) vlR wr x.ce_a x.ce_c x.ce_e.values) (ho : W2.ownsRow w.heap.size 47 2 v2 (es.length + 1) (es.flatMap ceCells ++ ceCells x)) (hg : wr.grownBy W2 ve.ownBlock) :
 NOw w W2 p A cap l j ob 26 scz #[ve, vm] ∧ SNo w (W2.setCell ⟨ob, 0, none⟩ v2) p ob A cap l j v2 vm (es ++ [x]) ms := by
 have hs := ns_grown h.sn_s h.sn_c.c_e (Nat.le_refl _) (by decide) hg
 obtain ⟨h1, _, _⟩ := cpy_enum h.sn_c (Below.refl _ _) x hx ho hg
 exact ⟨hs, ns_set hs 0 v2, h1, h.sn_a⟩
theorem sno_msg (h : SNo w wr p ob A cap l j ve vm es ms) (x : CM) {mark : Nat} (hx : Lst 7 (Typed w.heap.size wr 1) fdR wr x.cm_a x.cm_c x.cm_m.fields) (hx2 : Lst 1 (Typed w.heap.size wr 2) inR wr x.cm_b x.cm_d x.cm_m.barred) (hold : ∀ z ∈ ms, ∀ g, z.cm_m.fields ≠ [] → blkOf z.cm_a = some g → g < mark) (hnew : ∀ g, x.cm_m.fields ≠ [] → blkOf x.cm_a = some g → mark ≤ g)
 (ho : W2.ownsRow w.heap.size 43 3 v2 (ms.length + 1) (ms.flatMap cmCells ++ cmCells x)) (hg : wr.grownBy W2 vm.ownBlock) :
 NOw w W2 p A cap l j ob 26 scz #[ve, vm] ∧ SNo w (W2.setCell ⟨ob, 1, none⟩ v2) p ob A cap l j ve v2 es (ms ++ [x]) := by
 have hs := ns_grown h.sn_s h.sn_c.c_m (Nat.le_refl _) (by decide) hg
 obtain ⟨h1, _, _⟩ := cpy_msg h.sn_c (Below.refl _ _) x hx hx2 ho hg
 refine ⟨hs, ns_set hs 1 v2, h1, ?_⟩
 have hin : ∀ (i : Nat) z, (ms ++ [x])[i]? = some z → (ms[i]? = some z) ∨ (z = x ∧ i = ms.length) := fun i z hz => by
  rcases Nat.lt_or_ge i ms.length with h' | h'
  ·rw [List.getElem?_append_left h'] at hz; exact .inl hz
  ·rw [List.getElem?_append_right h'] at hz
   cases hd : i - ms.length with
   | zero => rw [hd] at hz; exact .inr ⟨by simpa using hz.symm, by omega⟩
   | succ d => rw [hd] at hz; simp at hz
 intro i k a b g hi hj hij na nb hga hgb
 rcases hin i a hi with h4 | ⟨rfl, h4⟩ <;> rcases hin k b hj with h5 | ⟨rfl, h5⟩
 ·exact h.sn_a i k a b g h4 h5 hij na nb hga hgb
 ·have := hold a (List.mem_of_getElem? h4) g na hga
  have := hnew g nb hgb
  omega
 ·have := hold b (List.mem_of_getElem? h5) g nb hgb
  have := hnew g na hga
  omega
 ·omega
theorem sno_marks (h : SNo w wr p ob A cap l j ve vm es ms) : ∀ z ∈ ms, ∀ g, z.cm_m.fields ≠ [] → blkOf z.cm_a = some g → g < wr.heap.size := fun z hz g hn hg => by
 have hl : 0 < z.cm_m.fields.length := List.length_pos_iff.mpr hn
 obtain ⟨g2, off, cs, e, ⟨_, ds, hd⟩, _⟩ := (h.sn_c.c_f z hz).l_at 0 _ (List.getElem?_eq_getElem hl)
 rw [e] at hg
 injection hg with hg
 have hg' : g2 = g := hg
 rw [← hg']
 exact lt_of_block hd
theorem sno_type {wz : World} {ms' : List CM} {x : CM} {q k g off : Nat} {f : Fd} (h : SNo w wr p ob A cap l j ve vm es ms') (hx : ms'[q]? = some x) (hA : x.cm_a = some ⟨g, off, none⟩) (hk : k < x.cm_m.fields.length) (hz : wz = wr.setCells g (off + k * 7) (fdCells f)) :
 SNo w wz p ob A cap l j ve vm es (ms'.set q (setF x k f)) ∧ ∀ (b : Nat) (cs : Array Value) (t : TypeId), wr.heap[b]? = some (.cells cs t (0, 0)) → t ≠ 70 → wz.heap[b]? = some (.cells cs t (0, 0)) := by
 obtain ⟨h1, h2⟩ := cpy_type (f := f) h.sn_c h.sn_a hx hA hk
 obtain ⟨hgb, gk, hgk⟩ := cpy_row h.sn_c hx hA hk
 have hsz := size_setCells2 wr g (fdCells f) (off + k * 7)
 have hot : ∀ b, b < wr.heap.size → b ≠ g → (wr.setCells g (off + k * 7) (fdCells f)).heap[b]? = wr.heap[b]? := fun b hb hne => World.heap_setCells_other wr g (off + k * 7) (fdCells f) hb hne
 have hos := World.os_setCells wr g (off + k * 7) (fdCells f)
 have hta := tape_setCells wr g (fdCells f) (off + k * 7)
 have hou := World.output_setCells wr g (off + k * 7) (fdCells f)
 rw [← hz] at h1 hsz hot hos hta hou
 clear hz
 have hty : ∀ (b : Nat) (cs : Array Value) (t : TypeId), wr.heap[b]? = some (.cells cs t (0, 0)) → t ≠ 70 → wz.heap[b]? = some (.cells cs t (0, 0)) := fun b cs t hb ht => (hot b (lt_of_block hb) (fun e => by
  rw [e, hgk] at hb
  injection hb with hb
  injection hb with _ e2
  exact ht e2.symm)).trans hb
 have hn := h.sn_s.ns_n
 exact ⟨⟨⟨⟨hty _ _ _ hn.nt_box (by decide), ⟨hos.trans hn.nt_only.os, hta.trans hn.nt_only.tape, hou.trans hn.nt_only.output, by rw [hsz]; exact hn.nt_only.size, fun b hb a1 a2 => (hot b (Nat.lt_of_lt_of_le hb hn.nt_only.size) (by omega)).trans (hn.nt_only.block b hb a1 a2)⟩⟩, h.sn_s.ns_j, hty _ _ _ h.sn_s.ns_0 (by decide), hty _ _ _ h.sn_s.ns_b (by decide), h.sn_s.ns_l, h.sn_s.ns_p⟩, h1, h2⟩, hty⟩
end
theorem sc_set {base b : Nat} {w : World} {A A2 : Option Addr} {n cap n2 cap2 : Nat} {s : Sc} {cs : Array Value} (h : ScAt (Typed base w) w A n cap A2 n2 cap2 s) (hb : w.heap[b]? = some (.cells cs 26 (0, 0))) (j : Nat) (u : Value) : ScAt (Typed base (w.setCell ⟨b, j, none⟩ u)) (w.setCell ⟨b, j, none⟩ u) A n cap A2 n2 cap2 s := by
 have hk : ∀ k g, Typed base w k g → (w.setCell ⟨b, j, none⟩ u).heap[g]? = w.heap[g]? := fun k g ⟨_, ds, hg⟩ => Below.heap_setCell w ⟨b, j, none⟩ u g (fun e => by
  have e' : g = b := e
  subst e'
  rw [hb] at hg
  injection hg with hg
  injection hg with _ e2
  match k with
  | 0 => exact absurd e2 (by decide)
  | 1 => exact absurd e2 (by decide)
  | 2 => exact absurd e2 (by decide)
  | 3 => exact absurd e2 (by decide)
  | k + 4 => exact absurd e2 (show ¬ 26 = 43 by decide))
 have hS : ∀ k g, Typed base w k g → Typed base (w.setCell ⟨b, j, none⟩ u) k g := fun k g hg => ⟨hg.1, hg.2.imp fun ds e => (hk k g hg).trans e⟩
 have hc : ∀ k (p : Addr), Typed base w k p.block → p.block < w.heap.size → (w.setCell ⟨b, j, none⟩ u).cell? p = w.cell? p := fun k p hp _ => World.cell?_of_block (hk k p.block hp)
 exact ⟨lst_keep h.s_e (enR_keep hS hc) (hS 3) (hc 3), lst_keep h.s_m (msR_keep hS hc) (hS 4) (hc 4), h.s_ne, h.s_nm⟩
theorem sc_low {base : Nat} {w : World} {A A2 : Option Addr} {n cap n2 cap2 : Nat} {s : Sc} (h : ScAt (Typed base w) w A n cap A2 n2 cap2 s) : ScAt (fun _ g => base ≤ g) w A n cap A2 n2 cap2 s :=
 ⟨lst_keep h.s_e (enR_keep (fun _ _ h => h.1) (fun _ _ _ _ => rfl)) (fun _ h => h.1) (fun _ _ _ => rfl), lst_keep h.s_m (msR_keep (fun _ _ h => h.1) (fun _ _ _ _ => rfl)) (fun _ h => h.1) (fun _ _ _ => rfl), h.s_ne, h.s_nm⟩
theorem nt_below {w W0 wr : World} {p cap i : Nat} {A : Option Addr} {l : List Tk} (hn : NTo w p A cap l i wr) (h : Below W0.heap.size W0 w) (hp : W0.heap.size ≤ p) : Below W0.heap.size W0 wr :=
 ⟨hn.nt_only.os.trans h.os, hn.nt_only.tape.trans h.tape, hn.nt_only.output.trans h.output, Nat.le_trans h.size hn.nt_only.size, fun g hg => (hn.nt_only.block g (Nat.lt_of_lt_of_le hg h.size) (by omega) (by omega)).trans (h.block g hg)⟩
theorem end_kind {l : List Tk} {j : Nat} : doneP l ⟨j, false⟩ = decide ((tokOf l j).kind = 0) := rfl
theorem ce_one (x : CE) : ∀ u ∈ ceCells x, u.oneCell' = true := by intro u hu; simp [ceCells] at hu; rcases hu with rfl | rfl <;> rfl
theorem cm_one (x : CM) : ∀ u ∈ cmCells x, u.oneCell' = true := by intro u hu; simp [cmCells] at hu; rcases hu with rfl | rfl | rfl <;> rfl
theorem sum_stop {l : List Tk} {f : Nat} {y : Ps} (h : y.at_bad = true) : partsP l f y = (([], []), y) := by
 cases f with
 | zero => rfl
 | succ f => rw [partsP, if_pos (by rw [h]; rfl)]
set_option maxHeartbeats 64000000 in
theorem nschema_any {w : World} {p cap i : Nat} {A : Option Addr} {l : List Tk} {W0 : World} (env : ScEnv W0) (hW : Below W0.heap.size W0 w) (hpW : W0.heap.size ≤ p) (h : NAt w p A cap l i) (hl : l.length ≤ 9000) (hg : GoodT l) (hE : EndOk l) :
 Calls Tryz.prog 56 #[.pointer (some ⟨p, 0, none⟩)] w fun e w' => ∃ v, Ends (partsP l (l.length + 1) ⟨i, false⟩).2 v e ∧ NTo w p A cap l (partsP l (l.length + 1) ⟨i, false⟩).2.at_i w' ∧ ((partsP l (l.length + 1) ⟨i, false⟩).2.at_bad = false → ∃ B n c B2 n2 c2, v = .agg #[.slice B n c, .slice B2 n2 c2] ∧
  ScAt (fun _ g => w.heap.size ≤ g) w' B n c B2 n2 c2 (typedS ⟨(partsP l (l.length + 1) ⟨i, false⟩).1.1, (partsP l (l.length + 1) ⟨i, false⟩).1.2⟩)) := by
 have H := Lib.hid h
 have HL := Lib.hid hl
 have HL5 : Hid (l.length ≤ 100000) := Lib.hid (by omega)
 have HG := Lib.hid hg
 have HE := Lib.hid hE
 have HP := Lib.hid (lt_of_block h.na_box)
 have HENV := Lib.hid (fun (wr : World) (i' : Nat) (hn : NTo w p A cap l i' wr) => env.rides (nt_below hn hW hpW))
 obtain ⟨r, hr⟩ : ∃ r, r = partsP l (l.length + 1) ⟨i, false⟩ := ⟨_, rfl⟩
 have HR := Lib.hid hr
 rw [← hr]
 have HS0 : Hid (SNo w ((w.alloc (.cells scz 26)).alloc (.cells scz 26)) p (w.heap.size + 1) A cap l i (.slice none 0 0) (.slice none 0 0) [] []) := Lib.hid (by
  have hb := (box_up w (.cells scz 26)).trans ((box_up (w.alloc (.cells scz 26)) (.cells scz 26)).mono (box_up w _).size)
  have h1 := heap_alloc_new (w.alloc (.cells scz 26)) (.cells scz 26)
  rw [World.size_alloc] at h1
  exact ⟨⟨nt_bel h hb, h.na_in, (heap_alloc_old _ _ (by simp)).trans (heap_alloc_new w _), h1, Nat.lt_succ_self _, lt_of_block h.na_box⟩, ⟨h1, World.ownsRow_nil _ _ _ _, World.ownsRow_nil _ _ _ _, by simp, by simp, by simp⟩, by intro i j x y g hi; simp at hi⟩)
 have HNF : Hid (∀ a b c d e w, (Instr.field 86 (.agg #[a, b, c, d, e]) 0).run Tryz.prog w = .ok a w) := Lib.hid (fun a b c d e w => by kernel_rfl)
 have hnf := HNF.out
 clear h hl hg hE hr env hW hpW
 go_enter Tryz.func56, Tryz.ntmps56
 go_wp2
 go_loopg [] (l.length + 1) (fun gz wr => ∃ (es : List CE) (ms : List CM) (j : Nat) (ve vm : Value), QSt l (l.length + 1) ⟨i, false⟩ (es.map CE.ce_e) (ms.map CM.cm_m) ⟨j, false⟩ gz ∧ SNo w wr p (w.heap.size + 1) A cap l j ve vm es ms)
 case atStart => exact ⟨[], [], i, .slice none 0 0, .slice none 0 0, qst_start l _ (Nat.lt_succ_self _) _, HS0.out⟩
 case round =>
  clear HS0
  obtain ⟨es, ms, j, ve, vm, hqst, hsno⟩ := hrel
  obtain ⟨A1, c1, rfl⟩ := own_slice hsno.sn_c.c_e
  obtain ⟨A2, c2, rfl⟩ := own_slice hsno.sn_c.c_m
  have HQ := Lib.hid hqst
  have HS := Lib.hid hsno
  have HEN : Hid (es.length + ms.length ≤ 9001) := Lib.hid (by have := hqst.qs_cnt; rw [List.length_map, List.length_map] at this; have := HL.out; omega)
  obtain ⟨g0, hg0⟩ : ∃ g0, g0 = gk := ⟨_, rfl⟩
  subst hg0
  have HC := Lib.hid (nhere_any (ns_at hsno.sn_s H.out))
  obtain ⟨kd, hkd⟩ : ∃ kd, kd = (tokOf l j).kind := ⟨_, rfl⟩
  rw [← hkd] at HC
  have HKD := Lib.hid hkd
  have K0 := True.intro
  clear hqst hsno hkd
  by_cases h0 : kd = 0
  ·have g1 : (kd != 0) = false := by rw [h0]; rfl
   have HT : Hid (r = ((es.map CE.ce_e, ms.map CM.cm_m), ⟨j, false⟩)) := Lib.hid (by rw [HR.out]; exact qst_done HQ.out (by rw [end_kind, ← HKD.out, decide_eq_true h0]))
   clear h0
   go_wp2_with (clear K0; go_at_call 55; refine HC.out.mono ?_; rintro e w2 ⟨rfl, hb⟩; replace HS := Lib.hid (sno_bel HS.out hb); have r1 := obj_cell HS.out.sn_s.ns_b 1; clear hb)
   obtain ⟨s, hs⟩ : ∃ s : Sc, s = ⟨es.map CE.ce_e, ms.map CM.cm_m⟩ := ⟨_, rfl⟩
   have HSS := Lib.hid hs
   have HT2 : Hid (r.1 = (s.enums, s.msgs) ∧ r.2 = ⟨j, false⟩) := Lib.hid (by rw [HT.out, hs]; exact ⟨rfl, rfl⟩)
   obtain ⟨nm, hnm⟩ : ∃ n, n = ms.length := ⟨_, rfl⟩
   rw [← hnm] at r1 HS ⊢
   have HNM := Lib.hid hnm
   obtain ⟨m3, m4⟩ : nm ≤ c2 ∧ c2 ≤ 9223372036854775807 := by
    rcases HS.out.sn_c.c_m.2 with ⟨e, hz⟩ | ⟨_, _, _, e, _, _, h5, h6, _⟩
    ·injection e with _ _ e3
     omega
    ·injection e with _ _ e3
     unfold maxLen at h6
     omega
   clear hs hnm HT HQ HC r1
   go_loopg [36] nm (fun gz y wr => ∃ q : Nat, y = .int .i64 (q : Int) ∧ q + gz = nm ∧ ∃ ms', TySt s ms ms' q 0 ∧ SNo w wr p (w.heap.size + 1) A cap l j (.slice A1 es.length c1) (.slice A2 nm c2) es ms')
   case atStart => exact ⟨0, rfl, by omega, ms, tyst_start s ms, HS.out⟩
   case round =>
    clear HS
    obtain ⟨q, rfl, hq, msA, hty, hsn⟩ := hrel
    obtain ⟨g1', hg1'⟩ : ∃ g, g = gk := ⟨_, rfl⟩
    subst hg1'
    have HTY := Lib.hid hty
    have HS := Lib.hid hsn
    clear hty hsn
    by_cases hlt : q < nm
    ·have t1 : decide ((q : Int) < (nm : Int)) = true := decide_eq_true (by omega)
     obtain ⟨x, hx⟩ : ∃ x, ms[q]? = some x := ⟨_, List.getElem?_eq_getElem (by have := HNM.out; omega)⟩
     have hnow := tyst_now HTY.out hx
     rw [mid_zero] at hnow
     obtain ⟨gm, hgm, e0, e1, e2⟩ := cm_cells HS.out.sn_c.c_m hnow
     have HX := Lib.hid hx
     have HGM := Lib.hid hgm
     have HBX := Lib.hid (heap_alloc_new wr (.cells #[.string (strOf x.cm_m.name), .slice x.cm_a x.cm_m.fields.length x.cm_c, .slice x.cm_b x.cm_m.barred.length x.cm_d] 43))
     have HS2 := Lib.hid (sno_bel HS.out (box_up wr (.cells #[.string (strOf x.cm_m.name), .slice x.cm_a x.cm_m.fields.length x.cm_c, .slice x.cm_b x.cm_m.barred.length x.cm_d] 43)))
     obtain ⟨nf, hnf2⟩ : ∃ n, n = x.cm_m.fields.length := ⟨_, rfl⟩
     have HNF2 := Lib.hid hnf2
     rw [← hnf2] at e1 HBX HS2
     obtain ⟨q3, q4⟩ : nf ≤ x.cm_c ∧ x.cm_c ≤ 9223372036854775807 := by
      have h1 := HS.out.sn_c.c_f _ (List.mem_of_getElem? hnow)
      have h2 := h1.l_le
      have h3 := h1.l_max
      unfold maxLen at h3
      exact ⟨by omega, h3⟩
     subst hgm
     clear hx hnow hnf2
     go_wp2
     clear e0 e1 e2
     obtain ⟨b5, hb5⟩ : ∃ b, b = wr.heap.size := ⟨_, rfl⟩
     rw [← hb5] at HBX ⊢
     have HB5 := Lib.hid hb5
     clear hb5
     go_loopg [43] nf (fun gz y wr2 => ∃ k : Nat, y = .int .i64 (k : Int) ∧ k + gz = nf ∧ ∃ ms', TySt s ms ms' q k ∧ SNo w wr2 p (w.heap.size + 1) A cap l j (.slice A1 es.length c1) (.slice (some ⟨gm, 0, none⟩) nm c2) es ms' ∧ wr2.heap[b5]? = some (.cells #[.string (strOf x.cm_m.name), .slice x.cm_a nf x.cm_c, .slice x.cm_b x.cm_m.barred.length x.cm_d] 43 (0, 0)))
     case atStart => exact ⟨0, rfl, by omega, msA, HTY.out, HS2.out, HBX.out⟩
     case round =>
      clear HS2 HS HTY HBX
      obtain ⟨k, rfl, hk, msB, hty, hsn, hbx⟩ := hrel
      obtain ⟨g2', hg2'⟩ : ∃ g, g = gk := ⟨_, rfl⟩
      subst hg2'
      obtain ⟨wk, hwk⟩ : ∃ wk, wk = wr := ⟨_, rfl⟩
      have HTY := Lib.hid hty
      have HS := Lib.hid hsn
      have HBX := Lib.hid hbx
      clear hty hsn hbx
      by_cases hltk : k < nf
      ·have t2 : decide ((k : Int) < (nf : Int)) = true := decide_eq_true (by omega)
       obtain ⟨f, hf⟩ : ∃ f, x.cm_m.fields[k]? = some f := ⟨_, List.getElem?_eq_getElem (by have := HNF2.out; omega)⟩
       have hnow := tyst_now HTY.out HX.out
       obtain ⟨g, off, hA, -, hcf⟩ := fd_at (HS.out.sn_c.c_f _ (List.mem_of_getElem? hnow)) (mid_at s x hf)
       have hA' : x.cm_a = some ⟨g, off, none⟩ := hA
       obtain ⟨d0, d1, d2, d3, d4, d5, d6⟩ := hcf _ (Below.refl _ _)
       have HCF := Lib.hid hcf
       have HF := Lib.hid hf
       have HAX := Lib.hid hA'
       rw [hA'] at HBX ⊢
       have hko : k < (midM s k x).cm_m.fields.length := by rw [mid_len]; have := HNF2.out; omega
       have HRW := Lib.hid (cpy_row HS.out.sn_c hnow hA hko).2
       obtain ⟨w7, hw7⟩ : ∃ w7, w7 = wr.alloc (.cells #[.string (strOf f.name), .int .i64 f.num, .int .i64 f.ty, .string (strOf f.ref), .bool f.rep, .bool f.loose, .string (strOf f.one)] 70) := ⟨_, rfl⟩
       have HW7 := Lib.hid hw7
       have HUP : Hid (Below wr.heap.size wr w7) := Lib.hid (by rw [hw7]; exact box_up wr _)
       have HFX : Hid (w7.heap[wr.heap.size]? = some (.cells #[.string (strOf f.name), .int .i64 f.num, .int .i64 f.ty, .string (strOf f.ref), .bool f.rep, .bool f.loose, .string (strOf f.one)] 70 (0, 0))) := Lib.hid (by rw [hw7]; exact heap_alloc_new wr _)
       have HS7 := Lib.hid (sno_bel HS.out HUP.out)
       have HB7 : Hid (w7.heap[b5]? = some (.cells #[.string (strOf x.cm_m.name), .slice (some ⟨g, off, none⟩) nf x.cm_c, .slice x.cm_b x.cm_m.barred.length x.cm_d] 43 (0, 0))) := Lib.hid ((HUP.out.block _ (lt_of_block HBX.out)).trans HBX.out)
       clear hf hnow hA hA' hcf hko hwk hw7
       go_wp2
       rw [← HW7.out]
       clear d0 d1 d2 d3 d4 d5 d6
       have HS0 : Hid (Below w7.heap.size w7 w7.drew) := Lib.hid (drewN_under w7 1)
       obtain ⟨f0, f1, f2, f3, f4, f5, f6⟩ := fdb_cells HFX.out
       have hm1 := obj_cell HB7.out 1
       have hs0 := obj_cell HS7.out.sn_s.ns_b 0
       have hs1 := obj_cell HS7.out.sn_s.ns_b 1
       have HCE := Lib.hid (And.intro f0 (And.intro f1 (And.intro f2 (And.intro f3 (And.intro f4 (And.intro f5 f6))))))
       have HCS := Lib.hid (And.intro hs0 hs1)
       have HCM := Lib.hid hm1
       clear f0 f1 f2 f3 f4 f5 f6 hm1 hs0 hs1
       refine wp_region_G (fun U => Below w7.heap.size w7 U) 7 (by kernel_rfl) ?_
       refine wgt 0 (.pointer (some ⟨b5, 1, none⟩)) (fun U hU => ?_) HS0.out ?_
       ·go_simp
       refine wgt 1 (.slice (some ⟨g, off, none⟩) nf x.cm_c) (fun U hU => ?_) HS0.out ?_
       ·have e := cell_under hU HCM.out; go_simp
       refine wgt 2 (.int .i64 (k : Int)) (fun U hU => ?_) HS0.out ?_
       ·go_simp
       refine wgt 3 (.agg #[.slice A1 es.length c1, .slice (some ⟨gm, 0, none⟩) nm c2]) (fun U hU => ?_) HS0.out ?_
       ·have e := cell_under hU HCS.out.1; have e2 := cell_under hU HCS.out.2; go_simp
       refine wgt 4 (.agg #[.string (strOf f.name), .int .i64 f.num, .int .i64 f.ty, .string (strOf f.ref), .bool f.rep, .bool f.loose, .string (strOf f.one)]) (fun U hU => ?_) HS0.out ?_
       ·obtain ⟨f0, f1, f2, f3, f4, f5, f6⟩ := HCE.out; have e0 := cell_under hU f0; have e1 := cell_under hU f1; have e2 := cell_under hU f2; have e3 := cell_under hU f3; have e4 := cell_under hU f4; have e5 := cell_under hU f5; have e6 := cell_under hU f6; clear f0 f1 f2 f3 f4 f5 f6; go_simp
       refine wgo 5 (fun K hK => ?_)
       go_simp
       go_at_call 113
       obtain ⟨_, _, _, _, _, _, v1, v2, hsc⟩ := cpy_reads (sno_bel HS7.out HS0.out).sn_c (s := ⟨es.map CE.ce_e, msB.map CM.cm_m⟩) rfl rfl
       cases v1
       cases v2
       refine (ntyped_any _ (HENV.out _ _ (sno_bel HS7.out HS0.out).sn_s.ns_n) hsc f).mono ?_
       rintro e w8 ⟨rfl, hb⟩
       have hb8 : Below w7.heap.size w7 w8 := HS0.out.trans hb
       refine hK _ _ ⟨fun _ => hb8, ?_⟩
       clear hK K hb
       have HS8 := Lib.hid (sno_bel HS7.out hb8)
       obtain ⟨cs, hrw⟩ := HRW.out
       have hr7 := ((HUP.out.trans (hb8.mono HUP.out.size)).block g (lt_of_block hrw)).trans hrw
       have y := obj_free hr7
       obtain ⟨d0, d1, d2, d3, d4, d5, d6⟩ := HCF.out w8 (HUP.out.trans (hb8.mono HUP.out.size))
       have y0 := y (off + k * 7); have y1 := y (off + k * 7 + 1); have y2 := y (off + k * 7 + 2); have y3 := y (off + k * 7 + 3); have y4 := y (off + k * 7 + 4); have y5 := y (off + k * 7 + 5); have y6 := y (off + k * 7 + 6)
       have HB8 : Hid (w8.heap[b5]? = some (.cells #[.string (strOf x.cm_m.name), .slice (some ⟨g, off, none⟩) nf x.cm_c, .slice x.cm_b x.cm_m.barred.length x.cm_d] 43 (0, 0))) := Lib.hid ((hb8.block _ (lt_of_block HB7.out)).trans HB7.out)
       clear hr7 hrw y
       obtain ⟨f', hf'⟩ : ∃ f', f' = typedF s f := ⟨_, rfl⟩
       have hfe : typedF ⟨es.map CE.ce_e, msB.map CM.cm_m⟩ f = f' := by rw [hf', HSS.out]; rfl
       rw [hfe]
       have HF' := Lib.hid hf'
       unfold fdV
       clear hfe hf'
       refine wgo 6 (fun K hK => ?_)
       go_simp
       refine hK _ _ ⟨fun _ => hb8, ?_⟩
       clear hK K
       refine wgo 7 (fun K hK => ?_)
       go_simp
       refine hK _ _ ⟨fun h => absurd rfl h, ?_⟩
       clear hK K
       refine wpAnyG_done (by kernel_rfl) ?_ _
       clear d0 d1 d2 d3 d4 d5 d6 y0 y1 y2 y3 y4 y5 y6
       obtain ⟨w9, hw9⟩ : ∃ w9, w9 = ((((((w8.setCell ⟨g, off + k * 7, none⟩ (.string (strOf f'.name))).setCell ⟨g, off + k * 7 + 1, none⟩ (.int .i64 f'.num)).setCell ⟨g, off + k * 7 + 2, none⟩ (.int .i64 f'.ty)).setCell ⟨g, off + k * 7 + 3, none⟩ (.string (strOf f'.ref))).setCell ⟨g, off + k * 7 + 4, none⟩ (.bool f'.rep)).setCell ⟨g, off + k * 7 + 5, none⟩ (.bool f'.loose)).setCell ⟨g, off + k * 7 + 6, none⟩ (.string (strOf f'.one)) := ⟨_, rfl⟩
       rw [← hw9]
       have hz : w9 = w8.setCells g (off + k * 7) (fdCells f') := hw9
       clear hw9
       obtain ⟨hsA, hkeep⟩ := sno_type HS8.out (tyst_now HTY.out HX.out) HAX.out (by rw [mid_len, ← HNF2.out]; exact hltk) hz
       have HSA := Lib.hid hsA
       have HB9 := Lib.hid (hkeep _ _ _ HB8.out (by decide))
       have HT9 : Hid (TySt s ms (msB.set q (setF (midM s k x) k f')) q (k + 1)) := Lib.hid (by rw [HF'.out]; exact tyst_field HTY.out HX.out HF.out)
       clear hz hsA hkeep
       go_simp
       rw [← HAX.out]
       go_wp2_with fail
       go_roundg (g2' - 1)
       case measure => omega
       case rel => exact ⟨k + 1, by go_num, by omega, _, HT9.out, HSA.out, by rw [HAX.out]; exact HB9.out⟩
      ·have t2 : decide ((k : Int) < (nf : Int)) = false := decide_eq_false (by omega)
       have HT9 := Lib.hid (tyst_next HTY.out HX.out (by have := HNF2.out; omega))
       clear hwk
       go_wp2
       go_roundg (g1' - 1)
       case measure => omega
       case rel => exact ⟨q + 1, by go_num, by omega, _, HT9.out, HS.out⟩
    ·have t1 : decide ((q : Int) < (nm : Int)) = false := decide_eq_false (by omega)
     have HMS := Lib.hid (tyst_end HTY.out (by have := HNM.out; omega))
     have r0 := obj_cell HS.out.sn_s.ns_b 0
     have r1 := obj_cell HS.out.sn_s.ns_b 1
     have hz : wr.heap[w.heap.size]? = some (.cells #[.slice none 0 0, .slice none 0 0] 26 (0, 0)) := HS.out.sn_s.ns_0
     have z0 := obj_cell hz 0
     have z1 := obj_cell hz 1
     have y0 := obj_free hz 0
     have y1 := obj_free hz 1
     have HZ := Lib.hid hz
     clear hz
     go_wp2
     refine bodyPost_ret (v := .agg #[.slice A1 es.length c1, .slice A2 nm c2]) ?_ rfl ?_
     ·have hres : Tryz.f56.results = #[.cell 2 26] := by kernel_rfl
      simp only [results, hres]
      go_simp
     ·rw [HT2.out.2]
      refine ⟨_, .inl ⟨rfl, rfl⟩, nt_set (nt_set HS.out.sn_s.ns_n HP.out (Nat.le_refl _) _ _) HP.out (Nat.le_refl _) _ _, fun _ => ⟨A1, es.length, c1, A2, nm, c2, rfl, ?_⟩⟩
      have hc := HS.out.sn_c
      rw [HMS.out] at hc
      obtain ⟨_, _, _, _, _, _, v1, v2, hsc⟩ := cpy_reads hc (s := typedS s) (by rw [HSS.out]; rfl) (by rw [HSS.out]; unfold typedS; rw [List.map_map, List.map_map]; rfl)
      cases v1
      cases v2
      rw [show (⟨r.1.1, r.1.2⟩ : Sc) = s by rw [HT2.out.1]]
      exact sc_low (sc_set (sc_set hsc HZ.out 0 _) (obj_set HZ.out 0 _) 1 _)
  ·have g1 : (kd != 0) = true := by rw [bne, beq_false_of_ne h0]; rfl
   have hd : doneP l ⟨j, false⟩ = false := by rw [end_kind, ← HKD.out, decide_eq_false h0]
   clear h0
   cases hk : isK l j 1 enumW with
   | true =>
     have HK := Lib.hid hk
     have HJ := Lib.hid (isK_in HE.out HS.out.sn_s.ns_j (by decide) hk)
     have HT := Lib.hid (qst_enum HQ.out hd HS.out.sn_s.ns_j (by rw [← isK_word HG.out HS.out.sn_s.ns_j (by decide)]; exact hk))
     clear hk hd
     go_wp2_with (first
      | (clear K0; go_at_call 55; refine HC.out.mono ?_; rintro e w2 ⟨rfl, hb⟩; replace HS := Lib.hid (sno_bel HS.out hb); have K1 := True.intro; clear hb)
      | (clear K1; go_at_call 109; refine (nword_any (ns_at HS.out.sn_s H.out) HL5.out enumW ⟨enumW.toArray⟩ rfl).mono ?_; rintro e w4 ⟨rfl, hn⟩; rw [HK.out]; rw [nxt_yes HK.out] at hn; replace HS := Lib.hid (sno_call HS.out hn HJ.out); clear hn))
     obtain ⟨⟨en, y⟩, hy⟩ : ∃ z, z = enumP l ⟨j + 1, false⟩ := ⟨_, rfl⟩
     have HSD := Lib.hid (sno_bel HS.out (Below.refl _ w4).drew)
     have HCF := Lib.hid (nenum_any (ns_at HSD.out.sn_s H.out) HL5.out HG.out HE.out)
     have HYI : Hid (y.at_i < l.length) := Lib.hid (by have := enum_in HE.out (x := ⟨j + 1, false⟩) HJ.out; rw [← hy] at this; exact this)
     have hny : nextP ⟨j, false⟩ = ⟨j + 1, false⟩ := rfl
     rw [hny] at HT
     unfold EnTo at HCF
     rw [← hy] at HT HCF
     dsimp only at HT HCF
     have hx := HS.out.sn_s.ns_b
     have r1 := obj_cell hx 0
     clear hy hx hny
     cases hyb : y.at_bad with
     | true =>
       have HB := Lib.hid hyb
       have HF : Hid (r.2 = y) := Lib.hid (by rw [HR.out, HT.out.2.qs_all, sum_stop hyb])
       clear hyb
       refine wp_region_heldX (by kernel_rfl) ?_
       refine rht 0 (.pointer (some ⟨w.heap.size + 1, 0, none⟩)) (fun U hU => ?_) ?_
       ·go_simp
       refine rht 1 (.slice A1 es.length c1) (fun U hU => ?_) ?_
       ·subst hU; go_simp
       refine rht 2 (.pointer (some ⟨p, 0, none⟩)) (fun U hU => ?_) ?_
       ·go_simp
       refine wpAnyH_all (rs := [3]) (by kernel_rfl) (by simp) (fun i hi => ?_)
       obtain rfl := List.mem_singleton.mp hi
       refine wpOp_step rfl (fun K hK => ?_)
       go_simp
       go_at_call 110
       refine HCF.out.mono ?_
       rintro e w5 ⟨v, ⟨hb, rfl⟩ | ⟨hb, rfl⟩, hn, -⟩
       ·exact absurd (hb.symm.trans HB.out) (by decide)
       ·exact ⟨rfl, .nilFunc, ends_bad hb HF.out, by rw [HF.out]; exact nt_trans HSD.out.sn_s.ns_n hn, fun h => by rw [HF.out, hb] at h; cases h⟩
     | false =>
       have HB := Lib.hid hyb
       obtain ⟨j2, hj2⟩ : ∃ j2, j2 = y.at_i := ⟨_, rfl⟩
       have hyj : y = ⟨j2, false⟩ := by rw [hj2]; exact ok_ps hyb
       rw [← hj2] at HYI HCF
       rw [hyj] at HT
       clear hyb hj2 hyj
       go_cut [] from 16 to 23 (fun wx => ∃ ve vm x, x.ce_e = en ∧ SNo w wx p (w.heap.size + 1) A cap l j2 ve vm (es ++ [x]) ms)
       case first =>
        go_region_law (first
         | (refine step_append_run (by rfl) _ _ (by rfl) (by rfl) (by rfl) (app_one el_en _ (own_below HS5.out.sn_c.c_e (box_up w5 _)) (heap_alloc_new w5 _) rfl rfl (ce_one ⟨en, A5, c5⟩) (by have := HEN.out; omega) (Nat.le_trans HS5.out.sn_s.ns_n.nt_only.size (box_up w5 _).size)) ?_
            rintro v9 w9 ⟨⟨A9, c9, rfl⟩, ho9, hg9⟩
            obtain ⟨hs9, hm9⟩ := sno_enum (sno_bel HS5.out (box_up w5 _)) ⟨en, A5, c5⟩ (typed_keep HLV.out (stays_below (box_up w5 _)) (by decide) vlR_keep) ho9 hg9
            have HS9 := Lib.hid hm9
            have s1 := obj_cell hs9.ns_b 0
            have s1f := obj_free hs9.ns_b 0
            clear ho9 hg9 hs9 hm9)
         | (go_simp; go_at_call 110; refine HCF.out.mono ?_; rintro e w5 ⟨v, ⟨hb, rfl⟩ | ⟨hb, rfl⟩, hn, hv⟩
            case inr => exact absurd (hb.symm.trans HB.out) (by decide)
            obtain ⟨A5, c5, rfl, hlv⟩ := hv HB.out
            have HLV := Lib.hid (lst_less hlv HSD.out.sn_s.ns_n.nt_only.size)
            have HS5 := Lib.hid (sno_call HSD.out hn HYI.out)
            have hx5 := HS5.out.sn_s.ns_b
            have t1 : w5.cell? ⟨w.heap.size + 1, 0, none⟩ = some (.slice A1 es.length c1) := obj_cell hx5 0
            have t2 : ∀ o, (w5.alloc o).cell? ⟨w.heap.size + 1, 0, none⟩ = some (.slice A1 es.length c1) := (fun o => ((box_up w5 o).cell (p := ⟨w.heap.size + 1, 0, none⟩) (lt_of_block hx5)).trans t1)
            clear hb hn hx5 hv hlv))
        all_goals
         go_wp2_with fail
         go_meet
         case rel => exact ⟨_, _, ⟨en, A5, c5⟩, rfl, HS9.out⟩
       case rest =>
        obtain ⟨ve', vm', x, hxe, hm1⟩ := hcut
        have HM1 := Lib.hid hm1
        have HXE := Lib.hid hxe
        clear hm1 hxe
        go_wp2
        go_roundg (g0 - 1)
        case measure => have := HT.out.1; omega
        case rel => exact ⟨es ++ [x], ms, j2, ve', vm', by rw [List.map_append, List.map_cons, List.map_nil, HXE.out]; exact HT.out.2, HM1.out⟩
   | false =>
     have HK := Lib.hid hk
     have he : isP l ⟨j, false⟩ enumW = false := by rw [← isK_word HG.out HS.out.sn_s.ns_j (by decide)]; exact hk
     clear hk
     cases hm : isK l j 1 msgW with
     | false =>
       have HM := Lib.hid hm
       have HF : Hid (r.2 = ⟨j, true⟩) := Lib.hid (by rw [HR.out, (qst_wrong HQ.out hd HS.out.sn_s.ns_j he (by rw [← isK_word HG.out HS.out.sn_s.ns_j (by decide)]; exact hm)).2.qs_all, sum_stop rfl]; rfl)
       clear hm he hd
       go_wp2_with (first
        | (clear K0; go_at_call 55; refine HC.out.mono ?_; rintro e w2 ⟨rfl, hb⟩; replace HS := Lib.hid (sno_bel HS.out hb); have K1 := True.intro; clear hb)
        | (clear K1; go_at_call 109; refine (nword_any (ns_at HS.out.sn_s H.out) HL5.out enumW ⟨enumW.toArray⟩ rfl).mono ?_; rintro e w4 ⟨rfl, hn⟩; rw [HK.out]; rw [nxt_no HK.out] at hn; replace HS := Lib.hid (sno_call HS.out hn HS.out.sn_s.ns_j); have K2 := True.intro; clear hn)
        | (clear K2; go_at_call 109; refine (nword_any (ns_at HS.out.sn_s H.out) HL5.out msgW ⟨msgW.toArray⟩ rfl).mono ?_; rintro e w5 ⟨rfl, hn⟩; rw [HM.out]; rw [nxt_no HM.out] at hn; replace HS := Lib.hid (sno_call HS.out hn HS.out.sn_s.ns_j); clear hn)
        | (go_at_call 111; refine (nmust_any false _).mono ?_; rintro e w6 ⟨rfl, rfl⟩))
       exact ⟨rfl, .nilFunc, by rw [HF.out]; exact .inr ⟨rfl, rfl⟩, by rw [HF.out]; exact HS.out.sn_s.ns_n, fun h => by rw [HF.out] at h; cases h⟩
     | true =>
       have HM := Lib.hid hm
       have HJ := Lib.hid (isK_in HE.out HS.out.sn_s.ns_j (by decide) hm)
       have HT := Lib.hid (qst_msg HQ.out hd HS.out.sn_s.ns_j he (by rw [← isK_word HG.out HS.out.sn_s.ns_j (by decide)]; exact hm))
       clear hm he hd
       go_wp2_with (first
        | (clear K0; go_at_call 55; refine HC.out.mono ?_; rintro e w2 ⟨rfl, hb⟩; replace HS := Lib.hid (sno_bel HS.out hb); have K1 := True.intro; clear hb)
        | (clear K1; go_at_call 109; refine (nword_any (ns_at HS.out.sn_s H.out) HL5.out enumW ⟨enumW.toArray⟩ rfl).mono ?_; rintro e w4 ⟨rfl, hn⟩; rw [HK.out]; rw [nxt_no HK.out] at hn; replace HS := Lib.hid (sno_call HS.out hn HS.out.sn_s.ns_j); have K2 := True.intro; clear hn)
        | (clear K2; go_at_call 109; refine (nword_any (ns_at HS.out.sn_s H.out) HL5.out msgW ⟨msgW.toArray⟩ rfl).mono ?_; rintro e w6 ⟨rfl, hn⟩; rw [HM.out]; rw [nxt_yes HM.out] at hn; replace HS := Lib.hid (sno_call HS.out hn HJ.out); clear hn)
        | (go_at_call 111; refine (nmust_any true _).mono ?_; rintro e w4 ⟨rfl, rfl⟩))
       obtain ⟨⟨m, y⟩, hy⟩ : ∃ z, z = msgP l ⟨j + 1, false⟩ := ⟨_, rfl⟩
       have HSD := Lib.hid (sno_bel HS.out (Below.refl _ w4).drew)
       have HCF := Lib.hid (nmessage_any (ns_at HSD.out.sn_s H.out) HL5.out HG.out HE.out)
       have HYI : Hid (y.at_i < l.length) := Lib.hid (by have := msg_in HE.out (x := ⟨j + 1, false⟩) HJ.out; rw [← hy] at this; exact this)
       have hny : nextP ⟨j, false⟩ = ⟨j + 1, false⟩ := rfl
       rw [hny] at HT
       unfold MsTo at HCF
       rw [← hy] at HT HCF
       dsimp only at HT HCF
       have hx := HS.out.sn_s.ns_b
       have r1 := obj_cell hx 1
       clear hy hx hny
       cases hyb : y.at_bad with
       | true =>
         have HB := Lib.hid hyb
         have HF : Hid (r.2 = y) := Lib.hid (by rw [HR.out, HT.out.2.qs_all, sum_stop hyb])
         clear hyb
         refine wp_region_heldX (by kernel_rfl) ?_
         refine rht 0 (.pointer (some ⟨w.heap.size + 1, 1, none⟩)) (fun U hU => ?_) ?_
         ·go_simp
         refine rht 1 (.slice A2 ms.length c2) (fun U hU => ?_) ?_
         ·subst hU; go_simp
         refine rht 2 (.pointer (some ⟨p, 0, none⟩)) (fun U hU => ?_) ?_
         ·go_simp
         refine wpAnyH_all (rs := [3]) (by kernel_rfl) (by simp) (fun i hi => ?_)
         obtain rfl := List.mem_singleton.mp hi
         refine wpOp_step rfl (fun K hK => ?_)
         go_simp
         go_at_call 112
         refine HCF.out.mono ?_
         rintro e w5 ⟨v, ⟨hb, rfl⟩ | ⟨hb, rfl⟩, hn, -⟩
         ·exact absurd (hb.symm.trans HB.out) (by decide)
         ·exact ⟨rfl, .nilFunc, ends_bad hb HF.out, by rw [HF.out]; exact nt_trans HSD.out.sn_s.ns_n hn, fun h => by rw [HF.out, hb] at h; cases h⟩
       | false =>
         have HB := Lib.hid hyb
         obtain ⟨j2, hj2⟩ : ∃ j2, j2 = y.at_i := ⟨_, rfl⟩
         have hyj : y = ⟨j2, false⟩ := by rw [hj2]; exact ok_ps hyb
         rw [← hj2] at HYI HCF
         rw [hyj] at HT
         clear hyb hj2 hyj
         go_region_law (first
          | (refine step_append_run (by rfl) _ _ (by rfl) (by rfl) (by rfl) (app_one el_ms _ (own_below HS5.out.sn_c.c_m (box_up w5 _)) (heap_alloc_new w5 _) rfl rfl (cm_one ⟨m, A5, c5, A6, c6⟩) (by have := HEN.out; omega) (Nat.le_trans HS5.out.sn_s.ns_n.nt_only.size (box_up w5 _).size)) ?_
             rintro v9 w9 ⟨⟨A9, c9, rfl⟩, ho9, hg9⟩
             obtain ⟨hs9, hm9⟩ := sno_msg (sno_bel HS5.out (box_up w5 _)) ⟨m, A5, c5, A6, c6⟩ (typed_keep HL7.out (stays_below (box_up w5 _)) (by decide) fdR_keep) (typed_keep HL8.out (stays_below (box_up w5 _)) (by decide) (fun _ _ h => h)) (sno_marks HSD.out) HNW.out ho9 hg9
             have HS9 := Lib.hid hm9
             have s1 := obj_cell hs9.ns_b 1
             have s1f := obj_free hs9.ns_b 1
             clear ho9 hg9 hs9 hm9)
          | (go_simp; go_at_call 112; refine HCF.out.mono ?_; rintro e w5 ⟨v, ⟨hb, rfl⟩ | ⟨hb, rfl⟩, hn, hv⟩
             case inr => exact absurd (hb.symm.trans HB.out) (by decide)
             obtain ⟨A5, c5, A6, c6, rfl, hlf, hlb⟩ := hv HB.out
             have HNW := Lib.hid (new_marks (x := ⟨m, A5, c5, A6, c6⟩) hlf)
             have HL7 := Lib.hid (lst_less hlf HSD.out.sn_s.ns_n.nt_only.size)
             have HL8 := Lib.hid (lst_less hlb HSD.out.sn_s.ns_n.nt_only.size)
             have HS5 := Lib.hid (sno_call HSD.out hn HYI.out)
             have hx5 := HS5.out.sn_s.ns_b
             have t1 : w5.cell? ⟨w.heap.size + 1, 1, none⟩ = some (.slice A2 ms.length c2) := obj_cell hx5 1
             have t2 : ∀ o, (w5.alloc o).cell? ⟨w.heap.size + 1, 1, none⟩ = some (.slice A2 ms.length c2) := (fun o => ((box_up w5 o).cell (p := ⟨w.heap.size + 1, 1, none⟩) (lt_of_block hx5)).trans t1)
             clear hb hn hx5 hv hlf hlb))
         all_goals
          go_wp2_with fail
          go_roundg (g0 - 1)
          case measure => have := HT.out.1; omega
          case rel => exact ⟨es, ms ++ [⟨m, A5, c5, A6, c6⟩], j2, _, _, by rw [List.map_append, List.map_cons, List.map_nil]; exact HT.out.2, HS9.out⟩
end Go.Proofs.YtcjjphioeneiiaaGreatDoor

/- The landed layer 18: what the reading answers, also where it ends in a panic that is caught. Conditions: ScEnv. -/
namespace Go.Proofs.YtcjjphioeneiiaaGreatDoor
open Go.RowKit
set_option linter.unusedVariables false
set_option maxRecDepth 100000

set_option maxHeartbeats 4000000 in
theorem ncatch_idle (a b c d : Value) (w : World) :
 CallsD Tryz.prog 54 #[a, b, c, d] .returning w fun e u' w' => e = .returned (.tuple #[]) ∧ u' = .returning ∧ w' = w := by
 have q1 : ∀ w : World, (binOp BinOp.eql 20 .nilIface .nilIface).run Tryz.prog w = .ok (.bool true) w := fun _ => by kernel_rfl
 refine callsD_of_wpS Tryz.func54 rfl fun c₀ cs hu => ?_
 apply wpS_seq
 apply wpS_region
 simp [wpOpsS, go_sem, recoverD, hu, Tryz.ntmps54, Exit.thenS]
 refine wpS_of_wp ?_
 go_wp2
 cases c₀
 simp_all [bodyPostS, results, Tryz.results54]
set_option maxHeartbeats 8000000 in
theorem ncatch_panics {w : World} {p cap i bs ba be : Nat} {A : Option Addr} {l : List Tk} (h : NAt w p A cap l i) (older : List PanicEntry) {x y : Value} {n m : Int}
 (hs : w.heap[bs]? = some (.cells #[x, y] 26 (0, 0))) (ha : w.heap[ba]? = some (.cells #[.int .i64 n] 3 (0, 0))) (he : w.heap[be]? = some (.cells #[.int .i64 m] 27 (0, 0))) (h1 : bs ≠ ba) (h2 : ba ≠ be) (h3 : bs ≠ be) :
 CallsD Tryz.prog 54 #[.pointer (some ⟨p, 0, none⟩), .pointer (some ⟨bs, 0, none⟩), .pointer (some ⟨ba, 0, none⟩), .pointer (some ⟨be, 0, none⟩)] (.panicking ({ v := errV, recovered := false } :: older)) w fun e u' w' =>
  e = .returned (.tuple #[]) ∧ u' = .panicking ({ v := errV, recovered := true } :: older) ∧ ∃ w1, Below w.heap.size w w1 ∧ w' = (((w1.setCell ⟨bs, 0, none⟩ (.slice none 0 0)).setCell ⟨bs, 1, none⟩ (.slice none 0 0)).setCell ⟨ba, 0, none⟩ (.int .i64 ((tokOf l i).pos : Int))).setCell ⟨be, 0, none⟩ (.int .i64 2) := by
 have q1 : ∀ w : World, (binOp BinOp.eql 20 errV .nilIface).run Tryz.prog w = .ok (.bool false) w := fun _ => by kernel_rfl
 have q2 : ∀ w : World, (binOp BinOp.eql 20 errV errV).run Tryz.prog w = .ok (.bool true) w := fun _ => by kernel_rfl
 unfold errV at q1 q2 ⊢
 have HC := Lib.hid (nhere_any h)
 have hnf : ∀ a b c d e w, (Instr.field 86 (.agg #[a, b, c, d, e]) 4).run Tryz.prog w = .ok e w := fun a b c d e w => by kernel_rfl
 have HS := Lib.hid hs
 have HA := Lib.hid ha
 have HE := Lib.hid he
 clear h hs ha he
 refine callsD_of_wpS Tryz.func54 rfl fun c₀ cs hu => ?_
 apply wpS_seq
 apply wpS_region
 simp [wpOpsS, go_sem, recoverD, hu, Tryz.ntmps54, Exit.thenS]
 refine wpS_of_wp ?_
 go_wp2_with (first
  | (go_at_call 55; refine HC.out.mono ?_; rintro e w1 ⟨rfl, hb⟩
     have hs1 := (hb.block _ (lt_of_block HS.out)).trans HS.out
     have ha1 := (hb.block _ (lt_of_block HA.out)).trans HA.out
     have he1 := (hb.block _ (lt_of_block HE.out)).trans HE.out
     have s0 := obj_cell hs1 0
     have s1 := obj_cell hs1 1
     have s2 := obj_free hs1 0
     have s3 := obj_free hs1 1
     have a0 := obj_cell ha1 0
     have a1 := obj_free ha1 0
     have e0 := obj_cell he1 0
     have e1 := obj_free he1 0
     have HB := Lib.hid hb
     clear hb hs1 ha1 he1))
 have hb := HB.out
 clear HC HS HA HE HB q1 q2 hnf
 cases c₀
 simp_all [bodyPostS, results, Tryz.results54]
 exact ⟨w1, hb, rfl⟩
theorem parts_in {l : List Tk} (hE : EndOk l) : ∀ (f : Nat) {x : Ps}, x.at_i < l.length → (partsP l f x).2.at_i < l.length
 | 0, x, h => h
 | f + 1, x, h => by
   rw [partsP]
   split
   ·exact h
   ·split
    ·rename_i e; exact parts_in hE f (enum_in hE (isP_next hE h e))
    ·split
     ·rename_i e; exact parts_in hE f (msg_in hE (isP_next hE h e))
     ·exact h
/-- What the reading answers. -/
def RdTo (w : World) (l : List Tk) (X : (List En × List Ms) × Ps) (e : Ending) (w' : World) : Prop :=
 Below w.heap.size w w' ∧ ((X.2.at_bad = true ∧ e = .returned (.tuple #[.agg #[.slice none 0 0, .slice none 0 0], .int .i64 ((tokOf l X.2.at_i).pos : Int), .int .i64 2])) ∨
  (X.2.at_bad = false ∧ ∃ B n c B2 n2 c2, e = .returned (.tuple #[.agg #[.slice B n c, .slice B2 n2 c2], .int .i64 ((tokOf l X.2.at_i).pos : Int), .int .i64 0]) ∧ ScAt (fun _ g => w.heap.size ≤ g) w' B n c B2 n2 c2 (typedS ⟨X.1.1, X.1.2⟩)))
theorem bel_put {w w1 : World} (h : Below w.heap.size w w1) {b : Nat} (hb : w.heap.size ≤ b) (j : Nat) (u : Value) : Below w.heap.size w (w1.setCell ⟨b, j, none⟩ u) := h.setCell (by show w.heap.size ≤ b; exact hb) u
theorem leaves_tmps {P : Program} {fn : Func} {t1 t2 : Array Value} {R : Ending → World → Prop} (hr : ∀ w, (results fn t1).run P w = (results fn t2).run P w) : ∀ (ds : List Deferred) (u : FrameMode) (w : World), Leaves P fn t1 R ds u w → Leaves P fn t2 R ds u w
 | [], .returning, w, ⟨v, h1, h2⟩ => ⟨v, by rw [← hr]; exact h1, h2⟩
 | [], .panicking c, w, h => h
 | [], .run, w, h => h.elim
 | d :: ds, u, w, ⟨hu, fv, cap, f, args, h1, h2, h3⟩ => ⟨hu, fv, cap, f, args, h1, h2, h3.mono (fun e u' w' h => by
     cases e with
     | returned v => exact leaves_tmps hr ds _ _ h
     | panicked c => exact leaves_tmps hr ds _ _ h
     | outgrown => exact h)⟩
theorem door_put {R : Ending → World → Prop} {K : Act → World → Prop} {c : List PanicEntry} {a : Act} {w : World} {d : Nat} {v : Value} (hd : 10 < d) (h : Exit.then K (bodyPostD Tryz.prog Tryz.f19 R) (.panic c) (a.put (some d) v) w) : Exit.then K (bodyPostD Tryz.prog Tryz.f19 R) (.panic c) a w := by
 refine leaves_tmps (t1 := a.tmps.setIfInBounds d v) (fun w => ?_) _ _ _ h
 have hg : ∀ k, k < 10 → (a.tmps.setIfInBounds d v)[k]?.getD undef = a.tmps[k]?.getD undef := fun k hk => by
  rw [Array.getElem?_setIfInBounds_ne (by omega)]
 simp [results, hg 2 (by decide), hg 3 (by decide), hg 4 (by decide)]
theorem sc_read {B b : Nat} {w w' : World} {A A2 : Option Addr} {n cap n2 cap2 : Nat} {s : Sc} (h : ScAt (fun _ g => B ≤ g) w A n cap A2 n2 cap2 s) (hb : b ≤ B) (hk : ∀ g, B ≤ g → w'.heap[g]? = w.heap[g]?) : ScAt (fun _ g => b ≤ g) w' A n cap A2 n2 cap2 s := by
 have hc : ∀ p : Addr, B ≤ p.block → p.block < w.heap.size → w'.cell? p = w.cell? p := fun p hp _ => World.cell?_of_block (hk p.block hp)
 exact ⟨lst_keep h.s_e (enR_keep (fun _ _ h => Nat.le_trans hb h) (fun _ => hc)) (fun _ h => Nat.le_trans hb h) hc, lst_keep h.s_m (msR_keep (fun _ _ h => Nat.le_trans hb h) (fun _ => hc)) (fun _ h => Nat.le_trans hb h) hc, h.s_ne, h.s_nm⟩
theorem four_box (w : World) (o1 o2 o3 o4 : Obj) (w4 : World) (h : w4 = (((w.alloc o1).alloc o2).alloc o3).alloc o4) : w4.heap[w.heap.size]? = some o1 ∧ w4.heap[w.heap.size + 1]? = some o2 ∧ w4.heap[w.heap.size + 2]? = some o3 ∧ w4.heap[w.heap.size + 3]? = some o4 ∧ Below w.heap.size w w4 ∧ w4.heap.size = w.heap.size + 4 := by
 subst h
 have z1 := heap_alloc_new w o1
 have z2 := heap_alloc_new (w.alloc o1) o2
 have z3 := heap_alloc_new ((w.alloc o1).alloc o2) o3
 have z4 := heap_alloc_new (((w.alloc o1).alloc o2).alloc o3) o4
 simp only [World.size_alloc] at z2 z3 z4
 refine ⟨?_, ?_, ?_, z4, ?_, by simp⟩
 ·rw [heap_alloc_old _ _ (by simp only [World.size_alloc]; omega), heap_alloc_old _ _ (by simp only [World.size_alloc]; omega), heap_alloc_old _ _ (by simp only [World.size_alloc]; omega)]; exact z1
 ·rw [heap_alloc_old _ _ (by simp only [World.size_alloc]; omega), heap_alloc_old _ _ (by simp only [World.size_alloc]; omega)]; exact z2
 ·rw [heap_alloc_old _ _ (by simp only [World.size_alloc]; omega)]; exact z3
 ·exact (((box_up w o1).trans ((box_up _ o2).mono (box_up w o1).size)).trans ((box_up _ o3).mono (by simp only [World.size_alloc]; omega))).trans ((box_up _ o4).mono (by simp only [World.size_alloc]; omega))
set_option maxHeartbeats 16000000 in
theorem nread_any {w : World} {cap : Nat} {A : Option Addr} {l : List Tk} (env : ScEnv w) (ht : Toks w A cap l) (h0 : 0 < l.length) (hl : l.length ≤ 9000) (hg : GoodT l) (hE : EndOk l) :
 Calls Tryz.prog 19 #[.slice A l.length cap] w fun e w' => RdTo w l (partsP l (l.length + 1) ⟨0, false⟩) e w' := by
 have hmf : ∀ (fn : Fn) (first cap : Array Value) (w : World), (Instr.makeFunc fn first cap).run Tryz.prog w = .ok (.func fn first cap) w := fun _ _ _ _ => rfl
 have hnf : ∀ a b c d e w, (Instr.field 86 (.agg #[a, b, c, d, e]) 4).run Tryz.prog w = .ok e w := fun a b c d e w => by kernel_rfl
 obtain ⟨w4, hw4⟩ : ∃ w4, w4 = (((w.alloc (.cells #[.slice none 0 0, .slice none 0 0] 26)).alloc (.cells #[.int .i64 0] 3)).alloc (.cells #[.int .i64 0] 27)).alloc (.cells #[.slice A l.length cap, .int .i64 0] 92) := ⟨_, rfl⟩
 obtain ⟨b1, b2, b3, b4, hb4, hs4⟩ := four_box _ _ _ _ _ _ hw4
 have h4 : NAt w4 (w.heap.size + 3) A cap l 0 := ⟨b4, toks_bel ht hb4, h0⟩
 have HC := Lib.hid (nschema_any env hb4 (by omega : w.heap.size ≤ w.heap.size + 3) h4 hl hg hE)
 have H4 := Lib.hid h4
 have HB := Lib.hid (And.intro b1 (And.intro b2 b3))
 have HB4 := Lib.hid hb4
 have HW4 := Lib.hid hw4
 have H4z := Lib.hid hs4
 obtain ⟨X, hX⟩ : ∃ X, X = partsP l (l.length + 1) ⟨0, false⟩ := ⟨_, rfl⟩
 rw [← hX] at HC ⊢
 have HXX := Lib.hid hX
 have HE := Lib.hid hE
 have HT := Lib.hid (And.intro ht h0)
 clear env ht h0 hl hg hE b1 b2 b3 b4 hb4 hs4 h4 hw4 hX
 go_enter_defers Tryz.func19, Tryz.ntmps19
 go_wp2_with (first
  | (go_at_call 56; rw [← HW4.out]; refine HC.out.mono ?_; rintro e w5 ⟨v, ⟨hb, rfl⟩ | ⟨hb, rfl⟩, hn, hv⟩
     case inr =>
      have hs := nt_keep hn HB.out.1 (by omega)
      have ha := nt_keep hn HB.out.2.1 (by omega)
      have he := nt_keep hn HB.out.2.2 (by omega)
      have hi : X.2.at_i < l.length := by rw [HXX.out]; exact parts_in HE.out _ HT.out.2
      have hz := nt_below hn HB4.out (by omega : w.heap.size ≤ w.heap.size + 3)
      have HNA := Lib.hid (na_after H4.out hn hi)
      have HK := Lib.hid (And.intro hs (And.intro ha (And.intro he hz)))
      have HBD := Lib.hid hb
      clear hs ha he hi hz hn hv hb HC
      go_wp2
      refine leaves_cons (f := 54) (args := #[.pointer (some ⟨w.heap.size + 3, 0, none⟩), .pointer (some ⟨w.heap.size, 0, none⟩), .pointer (some ⟨w.heap.size + 1, 0, none⟩), .pointer (some ⟨w.heap.size + 2, 0, none⟩)]) (by simp) (by simp [go_sem]) ?_
      refine (ncatch_panics HNA.out [] HK.out.1 HK.out.2.1 HK.out.2.2.1 (by omega) (by omega) (by omega)).mono ?_
      rintro e u' w6 ⟨rfl, rfl, w1, hb1, rfl⟩
      have hs := (hb1.block _ (lt_of_block HK.out.1)).trans HK.out.1
      have ha := (hb1.block _ (lt_of_block HK.out.2.1)).trans HK.out.2.1
      have he := (hb1.block _ (lt_of_block HK.out.2.2.1)).trans HK.out.2.2.1
      have hs0 := obj_set hs 0 (.slice none 0 0)
      have c0 := obj_cell hs 0
      have c1 := obj_cell hs 1
      have c2 := obj_cell ha 0
      have c3 := obj_cell he 0
      have hfin : RdTo w l X (.returned (.tuple #[.agg #[.slice none 0 0, .slice none 0 0], .int .i64 ((tokOf l X.2.at_i).pos : Int), .int .i64 2])) ((((w1.setCell ⟨w.heap.size, 0, none⟩ (.slice none 0 0)).setCell ⟨w.heap.size, 1, none⟩ (.slice none 0 0)).setCell ⟨w.heap.size + 1, 0, none⟩ (.int .i64 ((tokOf l X.2.at_i).pos : Int))).setCell ⟨w.heap.size + 2, 0, none⟩ (.int .i64 2)) :=
       ⟨bel_put (bel_put (bel_put (bel_put (HK.out.2.2.2.trans (hb1.mono HK.out.2.2.2.size)) (by omega) _ _) (by omega) _ _) (by omega) _ _) (by omega) _ _, .inl ⟨HBD.out, rfl⟩⟩
      simp [Leaves, settle, results, Tryz.results19, go_sem, c0, c1, c2, c3]
      exact hfin
     obtain ⟨B, n, c, B2, n2, c2, rfl, hsc⟩ := hv hb
     have hs := nt_keep hn HB.out.1 (by omega)
     have s0 := obj_cell hs 0
     have s1 := obj_cell hs 1
     have s2 := obj_free hs 0
     have s3 := obj_free hs 1
     have HK := Lib.hid (And.intro hs (And.intro (nt_keep hn HB.out.2.1 (by omega)) (nt_keep hn HB.out.2.2 (by omega))))
     have HN := Lib.hid hn
     have HSC := Lib.hid hsc
     have HBD := Lib.hid hb
     clear hs hn hv hb hsc HC))
 have HB6 : Hid (Below w.heap.size w ((w5.setCell ⟨w.heap.size, 0, none⟩ (.slice B n c)).setCell ⟨w.heap.size, 1, none⟩ (.slice B2 n2 c2))) := Lib.hid (bel_put (bel_put (nt_below HN.out HB4.out (by omega)) (Nat.le_refl _) _ _) (Nat.le_refl _) _ _)
 obtain ⟨w6, hw6⟩ : ∃ w6, w6 = (w5.setCell ⟨w.heap.size, 0, none⟩ (.slice B n c)).setCell ⟨w.heap.size, 1, none⟩ (.slice B2 n2 c2) := ⟨_, rfl⟩
 have hoth : ∀ b, b ≠ w.heap.size → w6.heap[b]? = w5.heap[b]? := fun b hb => by rw [hw6, Below.heap_setCell _ _ _ _ (by show b ≠ w.heap.size; exact hb), Below.heap_setCell _ _ _ _ (by show b ≠ w.heap.size; exact hb)]
 have hx6 : w6.heap[w.heap.size]? = some (.cells #[.slice B n c, .slice B2 n2 c2] 26 (0, 0)) := by rw [hw6]; exact obj_set (obj_set HK.out.1 0 (.slice B n c)) 1 (.slice B2 n2 c2)
 rw [← hw6] at HB6 ⊢
 have hi : X.2.at_i < l.length := by rw [HXX.out]; exact parts_in HE.out _ HT.out.2
 have HNA : Hid (NAt w6 (w.heap.size + 3) A cap l X.2.at_i) := Lib.hid ⟨(hoth _ (by omega)).trans HN.out.nt_box, toks_bel HT.out.1 HB6.out, hi⟩
 have HS6 : Hid (ScAt (fun _ g => w4.heap.size ≤ g) w6 B n c B2 n2 c2 (typedS ⟨X.1.1, X.1.2⟩)) := Lib.hid (by
  have hk : ∀ p : Addr, w4.heap.size ≤ p.block → p.block < w5.heap.size → w6.cell? p = w5.cell? p := fun p hp _ => World.cell?_of_block (hoth p.block (by have := lt_of_block HB.out.2.2; omega))
  exact ⟨lst_keep HSC.out.s_e (enR_keep (fun _ _ h => h) (fun _ => hk)) (fun _ h => h) hk, lst_keep HSC.out.s_m (msR_keep (fun _ _ h => h) (fun _ => hk)) (fun _ h => h) hk, HSC.out.s_ne, HSC.out.s_nm⟩)
 have HX6 := Lib.hid hx6
 have HA6 := Lib.hid (And.intro ((hoth (w.heap.size + 1) (by omega)).trans HK.out.2.1) ((hoth (w.heap.size + 2) (by omega)).trans HK.out.2.2))
 have s0' := obj_cell hx6 0
 have s1' := obj_cell hx6 1
 have HC := Lib.hid (fun (U : World) (hb : Below w6.heap.size w6 U) => nhere_any (na_bel HNA.out hb))
 have HDR : Hid (Below w6.heap.size w6 w6.drew) := Lib.hid (drewN_under w6 1)
 clear s0 s1 s2 s3 s0' s1' hw6 hoth hx6 hi HSC HK HN
 have HXD : Hid (w6.drew.heap[w.heap.size]? = some (.cells #[.slice B n c, .slice B2 n2 c2] 26 (0, 0))) := HX6
 refine wp_region_G (fun U => U.heap[w.heap.size]? = some (.cells #[.slice B n c, .slice B2 n2 c2] 26 (0, 0))) 6 (by kernel_rfl) ?_
 refine wgt 0 (.agg #[.slice B n c, .slice B2 n2 c2]) (fun U hU => ?_) HXD.out ?_ (hQ := fun _ _ _ h => door_put (d := 11) (by decide) h)
 ·have e0 := obj_cell hU 0; have e1 := obj_cell hU 1; go_simp
 refine wgt 1 (.pointer (some ⟨w.heap.size + 3, 0, none⟩)) (fun U hU => ?_) HXD.out ?_ (hQ := fun _ _ _ h => door_put (d := 12) (by decide) h)
 ·go_simp
 refine wgo 2 (fun K hK => ?_)
 go_simp
 go_at_call 55
 refine (HC.out _ HDR.out).mono ?_
 rintro e w7 ⟨rfl, hb⟩
 have hb7 := HDR.out.trans hb
 have hs7 := (hb7.block _ (lt_of_block HX6.out)).trans HX6.out
 have ha7 := (hb7.block _ (lt_of_block HA6.out.1)).trans HA6.out.1
 have he7 := (hb7.block _ (lt_of_block HA6.out.2)).trans HA6.out.2
 refine hK _ _ ⟨fun _ => hs7, ?_⟩
 clear hK K
 have t0 := obj_cell hs7 0
 have t1 := obj_cell hs7 1
 have t2 := obj_free hs7 0
 have t3 := obj_free hs7 1
 have hs8 : ((w7.setCell ⟨w.heap.size, 0, none⟩ (.slice B n c)).setCell ⟨w.heap.size, 1, none⟩ (.slice B2 n2 c2)).heap[w.heap.size]? = some (.cells #[.slice B n c, .slice B2 n2 c2] 26 (0, 0)) := obj_set (obj_set hs7 0 (.slice B n c)) 1 (.slice B2 n2 c2)
 have a0 := obj_cell ha7 0
 have a1 := obj_free ha7 0
 have e0 := obj_cell he7 0
 have e1 := obj_free he7 0
 obtain ⟨P0, hP0⟩ : ∃ P0 : Int, P0 = ((tokOf l X.2.at_i).pos : Int) := ⟨_, rfl⟩
 have hs9 : (((w7.setCell ⟨w.heap.size, 0, none⟩ (.slice B n c)).setCell ⟨w.heap.size, 1, none⟩ (.slice B2 n2 c2)).setCell ⟨w.heap.size + 1, 0, none⟩ (.int .i64 P0)).heap[w.heap.size]? = some (.cells #[.slice B n c, .slice B2 n2 c2] 26 (0, 0)) := (Below.heap_setCell _ _ _ _ (by show w.heap.size ≠ w.heap.size + 1; omega)).trans hs8
 have hfin : RdTo w l X (.returned (.tuple #[.agg #[.slice B n c, .slice B2 n2 c2], .int .i64 P0, .int .i64 0])) ((((w7.setCell ⟨w.heap.size, 0, none⟩ (.slice B n c)).setCell ⟨w.heap.size, 1, none⟩ (.slice B2 n2 c2)).setCell ⟨w.heap.size + 1, 0, none⟩ (.int .i64 P0)).setCell ⟨w.heap.size + 2, 0, none⟩ (.int .i64 0)) := by
  refine ⟨bel_put (bel_put (bel_put (bel_put (HB6.out.trans (hb7.mono HB6.out.size)) (by omega) _ _) (by omega) _ _) (by omega) _ _) (by omega) _ _, .inr ⟨HBD.out, B, n, c, B2, n2, c2, by rw [hP0], ?_⟩⟩
  exact sc_read (scAt_bel HS6.out hb7) (B := w4.heap.size) (b := w.heap.size) (by have := H4z.out; omega) (fun g hg => by rw [Below.heap_setCell _ _ _ _ (by show g ≠ w.heap.size + 2; have := H4z.out; omega), Below.heap_setCell _ _ _ _ (by show g ≠ w.heap.size + 1; have := H4z.out; omega), Below.heap_setCell _ _ _ _ (by show g ≠ w.heap.size; have := H4z.out; omega), Below.heap_setCell _ _ _ _ (by show g ≠ w.heap.size; have := H4z.out; omega)])
 rw [← hP0]
 clear hP0
 refine wgo2 3 4 (fun K hK => ?_) (fun K hK => ?_)
 ·go_simp
  refine hK _ _ ⟨fun _ => hs7, ?_⟩
  clear hK K
  refine wgo 4 (fun K hK => ?_)
  go_simp
  refine hK _ _ ⟨fun _ => hs8, ?_⟩
  clear hK K
  refine wgo 5 (fun K hK => ?_)
  go_simp
  refine hK _ _ ⟨fun _ => hs9, ?_⟩
  clear hK K
  refine wgo 6 (fun K hK => ?_)
  go_simp
  refine hK _ _ ⟨fun h => absurd rfl h, ?_⟩
  clear hK K
  refine wpAnyG_done (by kernel_rfl) ?_ _
  go_simp
  go_wp2_with fail
  refine leaves_cons (f := 54) (args := #[.pointer (some ⟨w.heap.size + 3, 0, none⟩), .pointer (some ⟨w.heap.size, 0, none⟩), .pointer (some ⟨w.heap.size + 1, 0, none⟩), .pointer (some ⟨w.heap.size + 2, 0, none⟩)]) (by simp) (by simp [go_sem]) ?_
  refine (ncatch_idle _ _ _ _ _).mono ?_
  rintro e u' w9 ⟨rfl, rfl, rfl⟩
  simp [Leaves, settle, results, Tryz.results19, go_sem, t0, t1, a0, e0]
  exact hfin
 ·go_simp
  refine hK _ _ ⟨fun _ => hs8, ?_⟩
  clear hK K
  refine wgo 3 (fun K hK => ?_)
  go_simp
  refine hK _ _ ⟨fun _ => hs8, ?_⟩
  clear hK K
  refine wgo 5 (fun K hK => ?_)
  go_simp
  refine hK _ _ ⟨fun _ => hs9, ?_⟩
  clear hK K
  refine wgo 6 (fun K hK => ?_)
  go_simp
  refine hK _ _ ⟨fun h => absurd rfl h, ?_⟩
  clear hK K
  refine wpAnyG_done (by kernel_rfl) ?_ _
  go_simp
  go_wp2_with fail
  refine leaves_cons (f := 54) (args := #[.pointer (some ⟨w.heap.size + 3, 0, none⟩), .pointer (some ⟨w.heap.size, 0, none⟩), .pointer (some ⟨w.heap.size + 1, 0, none⟩), .pointer (some ⟨w.heap.size + 2, 0, none⟩)]) (by simp) (by simp [go_sem]) ?_
  refine (ncatch_idle _ _ _ _ _).mono ?_
  rintro e u' w9 ⟨rfl, rfl, rfl⟩
  simp [Leaves, settle, results, Tryz.results19, go_sem, t0, t1, a0, e0]
  exact hfin
end Go.Proofs.YtcjjphioeneiiaaGreatDoor
