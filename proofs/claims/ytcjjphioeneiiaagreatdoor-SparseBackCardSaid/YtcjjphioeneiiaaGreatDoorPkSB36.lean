/- Several texts in one: PnD, PnE, SqTy, RzK, RzL. What each proves, and its conditions, stands at its own head. -/
import Derived.Test.YtcjjphioeneiiaaGreatDoorPkSB33
import Derived.Test.YtcjjphioeneiiaaGreatDoorPkSB35
import Derived.Test.YtcjjphioeneiiaaGreatDoorPkSB26
import Derived.Deep.CutRange
import Derived.Deep.RegionLaw
import Derived.Test.YtcjjphioeneiiaaGreatDoorPkSB17
import Derived.Laws.IdiomCopy
import Derived.Deep.Upon
import Derived.Test.YtcjjphioeneiiaaGreatDoorPkSB16
import Derived.Test.YtcjjphioeneiiaaGreatDoorPkSB12
import Derived.Test.YtcjjphioeneiiaaGreatDoorPkSB6
/- The landed layer 18: an enum is read. Conditions: those that each theorem names. -/
namespace Go.Proofs.YtcjjphioeneiiaaGreatDoor
open Go.RowKit
set_option linter.unusedVariables false
set_option maxRecDepth 100000

/-- 'append' of one thing that lies in a box onto a row of the call's own. -/
theorem app_one {U : World} {t e : TypeId} {k bytes n base gx : Nat} {v : Value} {xs c : List Value} {cs : Array Value} (el : ElT t e k bytes) (ty : TypeId) (ho : U.ownsRow base e k v n xs) (hx : U.heap[gx]? = some (.cells cs e (0, 0))) (hcs : cs.toList = c) (hk : c.length = k) (h1 : ∀ u ∈ c, u.oneCell' = true) (hn : n ≤ 100001) (hb : base ≤ U.heap.size) :
 ∃ v' w', (Builtin.append_ #[t, t] ty #[v, .slice (some ⟨gx, 0, none⟩) 1 1]).run Tryz.prog U = .ok v' w' ∧ ((∃ A' c', v' = .slice A' (n + 1) c') ∧ w'.ownsRow base e k v' (n + 1) (xs ++ c) ∧ U.grownBy w' v.ownBlock) := by
 obtain ⟨i, z, a1, a2, a3, a4, a5⟩ := el.e_i
 have hby := el.e_b
 have hm : (n + 1) * bytes ≤ 100002 * 1000 := Nat.mul_le_mul (by omega) hby
 obtain ⟨v', w', r1, r2, r3, -⟩ := run_append_own2 (P := Tryz.prog) U base t ty e i z k bytes el.e_t a1 a2 a3 a4 a5 el.e_k v n xs ho ⟨gx, 0, none⟩ 1 1 c (by rw [hk, Nat.one_mul]) (fun j u hu => by rw [← hcs] at hu; exact World.news_of_block hx j u hu) h1 (by unfold maxLen; omega) (by omega) hb
 refine ⟨v', w', r1, ?_, r2, r3⟩
 rcases r2.2 with ⟨h9, _⟩ | ⟨g9, c9, _, h9, _⟩
 ·exact ⟨none, 0, by rcases r2.2 with ⟨_, hz⟩ | ⟨_, _, _, h8, _⟩; omega; rw [h9] at h8; cases h8⟩
 ·exact ⟨_, _, h9⟩
/-- What a call gathers: its box, the answer's, the reader. -/
structure NOw (w wr : World) (p : Nat) (A : Option Addr) (cap : Nat) (l : List Tk) (j b : Nat) (t : TypeId) (z cs : Array Value) : Prop where
 ns_n : NTo w p A cap l j wr
 ns_j : j < l.length
 ns_0 : wr.heap[w.heap.size]? = some (.cells z t (0, 0))
 ns_b : wr.heap[b]? = some (.cells cs t (0, 0))
 ns_l : w.heap.size < b
 ns_p : p < w.heap.size
section
variable {w wr w' W2 : World} {p cap i j j' b base k n : Nat} {A : Option Addr} {l : List Tk} {t tv : TypeId} {z cs : Array Value} {v : Value} {xs : List Value}
theorem ns_at (h : NOw w wr p A cap l j b t z cs) (h0 : NAt w p A cap l i) : NAt wr p A cap l j := na_after h0 h.ns_n h.ns_j
theorem ns_call (h : NOw w wr p A cap l j b t z cs) (hn : NTo wr p A cap l j' w') (hj : j' < l.length) : NOw w w' p A cap l j' b t z cs :=
 ⟨nt_trans h.ns_n hn, hj, nt_keep hn h.ns_0 (by have := h.ns_p; omega), nt_keep hn h.ns_b (by have := h.ns_p; have := h.ns_l; omega), h.ns_l, h.ns_p⟩
theorem ns_up (h : NOw w wr p A cap l j b t z cs) (hb : Below wr.heap.size wr W2) : NOw w W2 p A cap l j b t z cs :=
 ⟨nt_up h.ns_n hb, h.ns_j, (hb.block _ (lt_of_block h.ns_0)).trans h.ns_0, (hb.block _ (lt_of_block h.ns_b)).trans h.ns_b, h.ns_l, h.ns_p⟩
theorem ns_set (h : NOw w wr p A cap l j b t z cs) (m : Nat) (u : Value) : NOw w (wr.setCell ⟨b, m, none⟩ u) p A cap l j b t z (cs.setIfInBounds m u) :=
 ⟨nt_set h.ns_n h.ns_p (Nat.le_of_lt h.ns_l) _ _, h.ns_j, (Below.heap_setCell _ _ _ _ (by show ¬ w.heap.size = b; have := h.ns_l; omega)).trans h.ns_0, obj_set h.ns_b m u, h.ns_l, h.ns_p⟩
theorem ns_grown (h : NOw w wr p A cap l j b t z cs) (ho : wr.ownsRow base tv k v n xs) (hb : w.heap.size ≤ base) (hne : t ≠ tv) (hg : wr.grownBy W2 v.ownBlock) : NOw w W2 p A cap l j b t z cs := by
 have hty : ∀ (q : Nat) (ds : Array Value), wr.heap[q]? = some (.cells ds t (0, 0)) → W2.heap[q]? = some (.cells ds t (0, 0)) := fun q ds hd => (grown_at hg (lt_of_block hd) (own_not ho hd hne)).trans hd
 exact ⟨nt_grown h.ns_n h.ns_p ho hb hg, h.ns_j, hty _ _ h.ns_0, hty _ _ h.ns_b, h.ns_l, h.ns_p⟩
theorem typed_nt {α : Type} {kk : Nat} {R : World → List Value → α → Prop} {A5 : Option Addr} {c : Nat} {es : List α} (h : Lst kk (Typed base wr k) R wr A5 c es) (hn : NTo wr p A cap l j W2) (hb : p < base) (hR : ∀ ds x, R wr ds x → R W2 ds x) : Lst kk (Typed base W2 k) R W2 A5 c es :=
 have hk : ∀ g, Typed base wr k g → W2.heap[g]? = wr.heap[g]? := fun g ⟨h1, _, hg⟩ => hn.nt_only.block g (lt_of_block hg) (by omega) (by omega)
 lst_keep h hR (fun g hg => ⟨hg.1, hg.2.imp fun ds e => (hk g hg).trans e⟩) (fun q hq _ => World.cell?_of_block (hk q.block hq))
end
theorem val_round (l : List Tk) (y : Ps) : valRound l y = (⟨(nbP l y).1.1, ((nbP l y).1.2 : Int)⟩, (nbP l y).2) := rfl
theorem nb_in {l : List Tk} {i : Nat} (hE : EndOk l) (hi : i < l.length) (hb : (nbP l ⟨i, false⟩).2.at_bad = false) : ∃ j, (nbP l ⟨i, false⟩).2 = ⟨j, false⟩ ∧ j < l.length := by
 refine ⟨(nbP l ⟨i, false⟩).2.at_i, ok_ps hb, ?_⟩
 exact need_in hE (num_in hE (need_in hE (name_in hE hi) _)) _
theorem vals_stays {l : List Tk} {y : Ps} (h : y.at_bad = true) {f : Nat} : valsP l (f + 1) y = ([], y) := by rw [valsP, if_pos h]
def EnTo (w : World) (p : Nat) (A : Option Addr) (cap : Nat) (l : List Tk) (y : Ps) (e : Ending) (w' : World) : Prop :=
 ∃ v, Ends (enumP l y).2 v e ∧ NTo w p A cap l (enumP l y).2.at_i w' ∧ ((enumP l y).2.at_bad = false → ∃ A5 c5, v = .agg #[.string (strOf (enumP l y).1.name), .slice A5 (enumP l y).1.values.length c5] ∧ Lst 2 (Typed w.heap.size w' 0) vlR w' A5 c5 (enumP l y).1.values)
set_option maxHeartbeats 32000000 in
theorem nenum_any {w : World} {p cap i : Nat} {A : Option Addr} {l : List Tk} (h : NAt w p A cap l i) (hl : l.length ≤ 100000) (hg : GoodT l) (hE : EndOk l) :
 Calls Tryz.prog 110 #[.pointer (some ⟨p, 0, none⟩)] w fun e w' => EnTo w p A cap l ⟨i, false⟩ e w' := by
 unfold EnTo
 have H := Lib.hid h
 have HL := Lib.hid hl
 have HG := Lib.hid hg
 have HE := Lib.hid hE
 have HP := Lib.hid (lt_of_block h.na_box)
 have HC := Lib.hid (nname_any (na_bel h (box_up w (.cells ez 47))) hl)
 have HD : Hid (enumP l ⟨i, false⟩ = (⟨(nameP l ⟨i, false⟩).1, (valsP l (l.length + 1) (needP l (nameP l ⟨i, false⟩).2 [123])).1⟩, (valsP l (l.length + 1) (needP l (nameP l ⟨i, false⟩).2 [123])).2)) := Lib.hid rfl
 obtain ⟨r, hr⟩ : ∃ r, r = enumP l ⟨i, false⟩ := ⟨_, rfl⟩
 rw [← hr] at HD ⊢
 obtain ⟨nm, hnm⟩ : ∃ nm, nm = (nameP l ⟨i, false⟩).1 := ⟨_, rfl⟩
 obtain ⟨sn, hsn⟩ : ∃ sn, sn = strOf nm := ⟨_, rfl⟩
 rw [← hnm] at HD HC
 rw [← hsn] at HC
 have HSN := Lib.hid hsn
 have K0 := True.intro
 clear h hl hg hE hr hnm hsn
 go_enter Tryz.func110, Tryz.ntmps110
 go_wp2_with (first
  | (clear K0; go_at_call 183; refine HC.out.mono ?_; rintro e w1 ⟨⟨hb, rfl⟩ | ⟨hb, rfl⟩, hn⟩
     case inr => (go_wp2; have e : r.2 = (nameP l ⟨i, false⟩).2 := (by rw [HD.out]; dsimp only; rw [need_stays hb, vals_stays hb]); exact ⟨rfl, .nilFunc, ends_bad hb e, by rw [e]; exact nt_trans (nt_bel H.out (box_up w _)) hn, fun h => by rw [e, hb] at h; cases h⟩)
     have hx := name_go hb
     rw [hx] at hn HD
     have hi := name_ok_in HE.out H.out.na_in hb
     have hq := (nt_keep hn (heap_alloc_new w (.cells ez 47)) (Nat.ne_of_gt HP.out))
     have HS : Hid (NOw w (w1.alloc (.cells #[.string sn, .slice none 0 0] 47)) p A cap l (i + 1) w1.heap.size 47 ez #[.string sn, .slice none 0 0]) := Lib.hid ⟨nt_up (nt_trans (nt_bel H.out (box_up w _)) hn) (box_up w1 _), hi, (heap_alloc_old w1 _ (lt_of_block hq)).trans hq, heap_alloc_new w1 _, lt_of_block hq, HP.out⟩
     have K1 := True.intro
     clear hn hb hx hi hq)
  | (clear K1; go_at_call 184; refine (nmark_any (ns_at HS.out H.out) HL.out [123] ⟨#[123]⟩ rfl).mono ?_; rintro e w2 ⟨rfl, hn⟩
     have hq := HS.out.ns_j
     cases hk : isK l (i + 1) 4 [123]
     case false => (rw [need_no HG.out hq (by decide) hk, vals_stays rfl] at HD; rw [nxt_no hk] at hn; go_wp2_with (go_at_call 111; refine (nmust_any false _).mono ?_; rintro e w3 ⟨rfl, rfl⟩); exact ⟨rfl, .nilFunc, by rw [HD.out]; exact .inr ⟨rfl, rfl⟩, by rw [HD.out]; exact nt_trans HS.out.ns_n hn, fun h => by rw [HD.out] at h; cases h⟩)
     rw [need_yes HG.out hq (by decide) hk] at HD
     rw [nxt_yes hk] at hn
     replace HS := Lib.hid (ns_call HS.out hn (isK_in HE.out hq (by decide) hk))
     clear hn hk hq)
  | (go_at_call 111; refine (nmust_any true _).mono ?_; rintro e w3 ⟨rfl, rfl⟩))
 obtain ⟨b, hb⟩ : ∃ b, b = w1.heap.size := ⟨_, rfl⟩
 rw [← hb] at HS ⊢
 clear hb HC
 go_loopg [] (l.length + 1) (fun gz wr => ∃ (es : List Vl) (j : Nat) (v : Value), ESt l ⟨i + 1 + 1, false⟩ es ⟨j, false⟩ gz ∧ NOw w wr p A cap l j b 47 ez #[.string sn, v] ∧ wr.ownsRow w.heap.size 67 2 v es.length (es.flatMap vlCells))
 case atStart => exact ⟨[], i + 1 + 1, .slice none 0 0, ⟨by simp, by simp, .inr (by show l.length < l.length + 1 + (i + 1 + 1); omega)⟩, HS.out, World.ownsRow_nil _ _ _ _⟩
 case round =>
  clear HS
  obtain ⟨es, j, v, hest, hst, hown⟩ := hrel
  obtain ⟨-, A5, c5, rfl, hl5⟩ := lst_own_typed (k := 2) (f := vlCells) (R := vlR) (by decide) (fun _ => rfl) (fun _ _ => rfl) hown
  have HEST := Lib.hid hest
  have HS := Lib.hid hst
  have HO := Lib.hid hown
  have HLS : Hid (Lst 2 (Typed w.heap.size wr 0) vlR wr A5 c5 es) := Lib.hid hl5
  have HLN : Hid (es.length ≤ 100001) := Lib.hid (by have := hest.es_cnt; have := HL.out; omega)
  obtain ⟨g0, hg0⟩ : ∃ g0, g0 = gk := ⟨_, rfl⟩
  subst hg0
  have K0 := True.intro
  clear hest hst hown hl5
  cases hk : isK l j 4 [125] with
  | true =>
    have HK := Lib.hid hk
    have HT := Lib.hid (est_end HEST.out rfl HS.out.ns_j (by rw [← isK_mark HG.out HS.out.ns_j (by decide)]; exact hk))
    rw [HT.out] at HD
    clear hk
    go_wp2_with (clear K0; go_at_call 184; refine (nmark_any (ns_at HS.out H.out) HL.out [125] ⟨#[125]⟩ rfl).mono ?_; rintro e w2 ⟨rfl, hn⟩; rw [HK.out]; rw [nxt_yes HK.out] at hn; replace HLS := Lib.hid (typed_nt HLS.out hn HP.out vlR_keep); replace HS := Lib.hid (ns_call HS.out hn (isK_in HE.out HS.out.ns_j (by decide) HK.out)); have r0 := obj_cell HS.out.ns_b 0; have r1 := obj_cell HS.out.ns_b 1; have hz : w2.heap[w.heap.size]? = some (.cells #[.string ⟨#[]⟩, .slice none 0 0] 47 (0, 0)) := HS.out.ns_0; have z0 := obj_cell hz 0; have z1 := obj_cell hz 1; have y0 := obj_free hz 0; have y1 := obj_free hz 1; have HZ := Lib.hid hz; clear hn hz)
    refine bodyPost_ret (v := .agg #[.string sn, .slice A5 es.length c5]) ?_ rfl ?_
    ·have hres : Tryz.f110.results = #[.cell 2 47] := by kernel_rfl
     simp only [results, hres]
     go_simp
    ·rw [HD.out]
     have e0 := obj_set HZ.out 0 (.string sn)
     exact ⟨_, .inl ⟨rfl, rfl⟩, nt_set (nt_set HS.out.ns_n HP.out (Nat.le_refl _) _ _) HP.out (Nat.le_refl _) _ _, fun _ => ⟨A5, c5, by rw [HSN.out], rz_typed_set (rz_typed_set HLS.out HZ.out (by decide) vlR_keep) e0 (by decide) vlR_keep⟩⟩
  | false =>
    have HK := Lib.hid hk
    have HT := Lib.hid (est_on HEST.out rfl HS.out.ns_j (by rw [← isK_mark HG.out HS.out.ns_j (by decide)]; exact hk))
    rw [val_round] at HT
    clear hk
    go_wp2_with (first
     | (clear K0; go_at_call 184; refine (nmark_any (ns_at HS.out H.out) HL.out [125] ⟨#[125]⟩ rfl).mono ?_; rintro e w2 ⟨rfl, hn⟩; rw [HK.out]; rw [nxt_no HK.out] at hn; replace HO := Lib.hid (own_nt HO.out hn HP.out); replace HS := Lib.hid (ns_call HS.out hn HS.out.ns_j); have K1 := True.intro; clear hn)
     | (clear K1; go_at_call 185; refine (nnumbered_any (ns_at HS.out H.out) HL.out HG.out HE.out).mono ?_; rintro e w3 ⟨⟨hb, rfl⟩ | ⟨hb, rfl⟩, hn⟩
        case inr => (go_wp2; have e : r.2 = (nbP l ⟨j, false⟩).2 := (by rw [HD.out, est_bad HT.out.2 hb]); exact ⟨rfl, .nilFunc, ends_bad hb e, by rw [e]; exact nt_trans HS.out.ns_n hn, fun h => by rw [e, hb] at h; cases h⟩)
        obtain ⟨j2, hj2, hj3⟩ := nb_in HE.out HS.out.ns_j hb
        rw [hj2] at hn
        rw [hj2] at HT
        obtain ⟨⟨nv, nn⟩, hnv⟩ : ∃ z, z = (nbP l ⟨j, false⟩).1 := ⟨_, rfl⟩
        rw [← hnv] at HT ⊢
        replace HO := Lib.hid (own_nt HO.out hn HP.out)
        replace HS := Lib.hid (ns_call HS.out hn hj3)
        have r1 := obj_cell HS.out.ns_b 1
        clear hn hb hj2 hj3 hnv)
     | (at_builtin; refine wpl_append_x rfl _ _ rfl rfl rfl (app_one el_vl _ (own_below HO.out (box_up w3 _)) (heap_alloc_new w3 _) rfl rfl (vl_one ⟨nv, (nn : Int)⟩) HLN.out (Nat.le_trans HS.out.ns_n.nt_only.size (box_up w3 _).size)) ?_; rintro v2 w4 ⟨⟨A9, c9, rfl⟩, ho, hg⟩; replace HS := Lib.hid (ns_grown (ns_up HS.out (box_up w3 _)) (own_below HO.out (box_up w3 _)) (Nat.le_refl _) (by decide) hg); have HO4 := Lib.hid ho; have s1 := obj_cell HS.out.ns_b 1; have s1f := obj_free HS.out.ns_b 1; clear ho hg))
    go_roundg (g0 - 1)
    case measure => have := HT.out.1; omega
    case rel => exact ⟨es ++ [⟨nv, (nn : Int)⟩], j2, _, HT.out.2, ns_set HS.out 1 _, by rw [List.length_append, List.flatMap_append, List.flatMap_cons, List.flatMap_nil, List.append_nil]; exact rz_own_set HO4.out (own_not HO4.out HS.out.ns_b (by decide)) 1 _⟩
end Go.Proofs.YtcjjphioeneiiaaGreatDoor

/- The landed layer 18: a message is read. Conditions: those that each theorem names. -/
namespace Go.Proofs.YtcjjphioeneiiaaGreatDoor
open Go.RowKit
set_option linter.unusedVariables false
set_option maxRecDepth 100000

theorem wp_region_heldX {P : Program} {id : Nat} {Q : Exit → Act → World → Prop} {a : Act} {w : World} {l : List Oper} (hm : P.follows .mixedOrders = true)
 (h : wpAnyH P .any l.toArray Q (fun U => U = w.drew) l.toArray.size (Array.replicate l.toArray.size false) a w.drew) : (Code.region id l.toArray true).wp P Q a w := wp_region_held hm h
theorem own_slice {w : World} {base k n : Nat} {e : TypeId} {v : Value} {xs : List Value} (h : w.ownsRow base e k v n xs) : ∃ A c, v = .slice A n c := by
 rcases h.2 with ⟨h9, hz⟩ | ⟨g9, c9, _, h9, _⟩
 ·exact ⟨none, 0, by rw [h9, hz]⟩
 ·exact ⟨_, _, h9⟩
/-- 'append' of a list onto a row of the call's own. -/
theorem app_many {α : Type} {U : World} {t e : TypeId} {k bytes n m c base : Nat} {v : Value} {xs : List Value} {S : Nat → Prop} {R : World → List Value → α → Prop} {f : α → List Value} {A : Option Addr} {l : List α} (el : ElT t e k bytes) (ty : TypeId) (ho : U.ownsRow base e k v n xs) (hb : Lst k S R U A c l) (hR : ∀ cs x, R U cs x → cs = f x) (hf : ∀ x, (f x).length = k) (h1 : ∀ x u, u ∈ f x → u.oneCell' = true) (hm : m = l.length) (hn : n + m ≤ 100001) (hbase : base ≤ U.heap.size) :
 ∃ v' w', (Builtin.append_ #[t, t] ty #[v, .slice A m c]).run Tryz.prog U = .ok v' w' ∧ ((∃ A' c', v' = .slice A' (n + m) c') ∧ w'.ownsRow base e k v' (n + m) (xs ++ l.flatMap f) ∧ U.grownBy w' v.ownBlock) := by
 obtain ⟨i, z, a1, a2, a3, a4, a5⟩ := el.e_i
 have hby := el.e_b
 have hm2 : (n + m) * bytes ≤ 100002 * 1000 := Nat.mul_le_mul (by omega) hby
 obtain ⟨v', w', r1, r2, r3, -⟩ := run_append_lst (P := Tryz.prog) ty el.e_t a1 a2 a3 a4 a5 el.e_k hf h1 ho hb hR hm (by unfold maxLen; omega) (by omega) hbase
 exact ⟨v', w', r1, own_slice r2, r2, r3⟩
/-- A message under way: its boxes, its fields' row, its numbers' row. -/
structure MNo (w wr : World) (p b : Nat) (A : Option Addr) (cap : Nat) (l : List Tk) (j : Nat) (sn : ByteArray) (v1 v2 : Value) (fs : List Fd) (ns : List Int) : Prop where
 mn_s : NOw w wr p A cap l j b 43 mz #[.string sn, v1, v2]
 mn_f : wr.ownsRow w.heap.size 70 7 v1 fs.length (fs.flatMap fdCells)
 mn_n : wr.ownsRow w.heap.size 3 1 v2 ns.length (zs ns)
section
variable {w wr W2 w' : World} {p b cap j j' : Nat} {A : Option Addr} {l : List Tk} {sn : ByteArray} {v1 v2 v' : Value} {fs : List Fd} {ns : List Int}
theorem mno_call (h : MNo w wr p b A cap l j sn v1 v2 fs ns) (hn : NTo wr p A cap l j' w') (hj : j' < l.length) : MNo w w' p b A cap l j' sn v1 v2 fs ns :=
 ⟨ns_call h.mn_s hn hj, own_nt h.mn_f hn h.mn_s.ns_p, own_nt h.mn_n hn h.mn_s.ns_p⟩
theorem mno_bel (h : MNo w wr p b A cap l j sn v1 v2 fs ns) (hb : Below wr.heap.size wr W2) : MNo w W2 p b A cap l j sn v1 v2 fs ns :=
 ⟨ns_up h.mn_s hb, own_below h.mn_f hb, own_below h.mn_n hb⟩
theorem mno_apart (h : MNo w wr p b A cap l j sn v1 v2 fs ns) {q : Nat} (h1 : v1.ownBlock = some q) (h2 : v2.ownBlock = some q) : False := by
 obtain ⟨_, _, e1⟩ := own_typed h.mn_f h1
 obtain ⟨_, _, e2⟩ := own_typed h.mn_n h2
 rw [e1] at e2
 injection e2 with e2
 injection e2 with _ e3
 exact absurd e3 (by decide)
theorem mno_f (h : MNo w wr p b A cap l j sn v1 v2 fs ns) {f : Fd} (ho : W2.ownsRow w.heap.size 70 7 v' (fs.length + 1) (fs.flatMap fdCells ++ fdCells f)) (hg : wr.grownBy W2 v1.ownBlock) : NOw w W2 p A cap l j b 43 mz #[.string sn, v1, v2] ∧ MNo w (W2.setCell ⟨b, 1, none⟩ v') p b A cap l j sn v' v2 (fs ++ [f]) ns := by
 have hs := ns_grown h.mn_s h.mn_f (Nat.le_refl _) (by decide) hg
 have hn : W2.ownsRow w.heap.size 3 1 v2 ns.length (zs ns) := own_block h.mn_n (fun q hq => grown_at hg (h.mn_n.lt q hq).2 (fun e => mno_apart h e hq))
 exact ⟨hs, ns_set hs 1 v', rz_own_set (by rw [List.length_append, List.flatMap_append, List.flatMap_cons, List.flatMap_nil, List.append_nil]; exact ho) (own_not ho hs.ns_b (by decide)) 1 v', rz_own_set hn (own_not hn hs.ns_b (by decide)) 1 v'⟩
theorem mno_n (h : MNo w wr p b A cap l j sn v1 v2 fs ns) {ms : List Int} {n : Nat} (hn : n = ms.length) (ho : W2.ownsRow w.heap.size 3 1 v' (ns.length + n) (zs ns ++ ms.flatMap inC)) (hg : wr.grownBy W2 v2.ownBlock) : NOw w W2 p A cap l j b 43 mz #[.string sn, v1, v2] ∧ MNo w (W2.setCell ⟨b, 2, none⟩ v') p b A cap l j sn v1 v' fs (ns ++ ms) := by
 subst hn
 have hs := ns_grown h.mn_s h.mn_n (Nat.le_refl _) (by decide) hg
 have hn : W2.ownsRow w.heap.size 70 7 v1 fs.length (fs.flatMap fdCells) := own_block h.mn_f (fun q hq => grown_at hg (h.mn_f.lt q hq).2 (fun e => mno_apart h hq e))
 exact ⟨hs, ns_set hs 2 v', rz_own_set hn (own_not hn hs.ns_b (by decide)) 2 v', rz_own_set (by rw [List.length_append, zs_append]; exact ho) (own_not ho hs.ns_b (by decide)) 2 v'⟩
theorem mno_slices (h : MNo w wr p b A cap l j sn v1 v2 fs ns) : ∃ A1 c1 A2 c2, v1 = .slice A1 fs.length c1 ∧ v2 = .slice A2 ns.length c2 ∧ Lst 7 (Typed w.heap.size wr 1) fdR wr A1 c1 fs ∧ Lst 1 (Typed w.heap.size wr 2) inR wr A2 c2 ns := by
 obtain ⟨_, A1, c1, e1, l1⟩ := lst_own_typed (k := 7) (f := fdCells) (R := fdR) (by decide) (fun _ => rfl) (fun _ _ => rfl) h.mn_f
 obtain ⟨_, A2, c2, e2, l2⟩ := lst_own_typed (k := 1) (f := zcell) (R := inR) (by decide) (fun _ => rfl) (fun _ _ => rfl) h.mn_n
 exact ⟨A1, c1, A2, c2, e1, e2, l1, l2⟩
end
def MsTo (w : World) (p : Nat) (A : Option Addr) (cap : Nat) (l : List Tk) (y : Ps) (e : Ending) (w' : World) : Prop :=
 ∃ v, Ends (msgP l y).2 v e ∧ NTo w p A cap l (msgP l y).2.at_i w' ∧ ((msgP l y).2.at_bad = false → ∃ A1 c1 A2 c2, v = .agg #[.string (strOf (msgP l y).1.name), .slice A1 (msgP l y).1.fields.length c1, .slice A2 (msgP l y).1.barred.length c2] ∧
   Lst 7 (Typed w.heap.size w' 1) fdR w' A1 c1 (msgP l y).1.fields ∧ Lst 1 (Typed w.heap.size w' 2) inR w' A2 c2 (msgP l y).1.barred)
theorem lines_stays {l : List Tk} {y : Ps} (h : y.at_bad = true) {f : Nat} : linesP l (f + 1) y = (([], []), y) := by rw [linesP, if_pos h]
theorem inC_one' (x : Int) (u : Value) (hu : u ∈ inC x) : u.oneCell' = true := by simp [inC] at hu; subst hu; rfl
set_option maxHeartbeats 64000000 in
theorem nmessage_any {w : World} {p cap i : Nat} {A : Option Addr} {l : List Tk} (h : NAt w p A cap l i) (hl : l.length ≤ 100000) (hg : GoodT l) (hE : EndOk l) :
 Calls Tryz.prog 112 #[.pointer (some ⟨p, 0, none⟩)] w fun e w' => MsTo w p A cap l ⟨i, false⟩ e w' := by
 unfold MsTo
 have H := Lib.hid h
 have HL := Lib.hid hl
 have HG := Lib.hid hg
 have HE := Lib.hid hE
 have HP := Lib.hid (lt_of_block h.na_box)
 have HC := Lib.hid (nname_any (na_bel h (box_up w (.cells mz 43))) hl)
 have HD : Hid (msgP l ⟨i, false⟩ = (⟨(nameP l ⟨i, false⟩).1, (linesP l (l.length + 1) (needP l (nameP l ⟨i, false⟩).2 [123])).1.1, (linesP l (l.length + 1) (needP l (nameP l ⟨i, false⟩).2 [123])).1.2⟩, (linesP l (l.length + 1) (needP l (nameP l ⟨i, false⟩).2 [123])).2)) := Lib.hid rfl
 obtain ⟨r, hr⟩ : ∃ r, r = msgP l ⟨i, false⟩ := ⟨_, rfl⟩
 rw [← hr] at HD ⊢
 obtain ⟨nm, hnm⟩ : ∃ nm, nm = (nameP l ⟨i, false⟩).1 := ⟨_, rfl⟩
 obtain ⟨sn, hsn⟩ : ∃ sn, sn = strOf nm := ⟨_, rfl⟩
 rw [← hnm] at HD HC
 rw [← hsn] at HC
 have HSN := Lib.hid hsn
 have K0 := True.intro
 clear h hl hg hE hr hnm hsn
 go_enter Tryz.func112, Tryz.ntmps112
 go_wp2_with (first
  | (clear K0; go_at_call 183; refine HC.out.mono ?_; rintro e w1 ⟨⟨hb, rfl⟩ | ⟨hb, rfl⟩, hn⟩
     case inr => (go_wp2; have e : r.2 = (nameP l ⟨i, false⟩).2 := (by rw [HD.out]; dsimp only; rw [need_stays hb, lines_stays hb]); exact ⟨rfl, .nilFunc, ends_bad hb e, by rw [e]; exact nt_trans (nt_bel H.out (box_up w _)) hn, fun h => by rw [e, hb] at h; cases h⟩)
     have hx := name_go hb
     rw [hx] at hn HD
     have hi := name_ok_in HE.out H.out.na_in hb
     have hq := (nt_keep hn (heap_alloc_new w (.cells mz 43)) (Nat.ne_of_gt HP.out))
     have HS : Hid (NOw w (w1.alloc (.cells #[.string sn, .slice none 0 0, .slice none 0 0] 43)) p A cap l (i + 1) w1.heap.size 43 mz #[.string sn, .slice none 0 0, .slice none 0 0]) := Lib.hid ⟨nt_up (nt_trans (nt_bel H.out (box_up w _)) hn) (box_up w1 _), hi, (heap_alloc_old w1 _ (lt_of_block hq)).trans hq, heap_alloc_new w1 _, lt_of_block hq, HP.out⟩
     have K1 := True.intro
     clear hn hb hx hi hq)
  | (clear K1; go_at_call 184; refine (nmark_any (ns_at HS.out H.out) HL.out [123] ⟨#[123]⟩ rfl).mono ?_; rintro e w2 ⟨rfl, hn⟩
     have hq := HS.out.ns_j
     cases hk : isK l (i + 1) 4 [123]
     case false => (rw [need_no HG.out hq (by decide) hk, lines_stays rfl] at HD; rw [nxt_no hk] at hn; go_wp2_with (go_at_call 111; refine (nmust_any false _).mono ?_; rintro e w3 ⟨rfl, rfl⟩); exact ⟨rfl, .nilFunc, by rw [HD.out]; exact .inr ⟨rfl, rfl⟩, by rw [HD.out]; exact nt_trans HS.out.ns_n hn, fun h => by rw [HD.out] at h; cases h⟩)
     rw [need_yes HG.out hq (by decide) hk] at HD
     rw [nxt_yes hk] at hn
     replace HS := Lib.hid (ns_call HS.out hn (isK_in HE.out hq (by decide) hk))
     clear hn hk hq)
  | (go_at_call 111; refine (nmust_any true _).mono ?_; rintro e w3 ⟨rfl, rfl⟩))
 obtain ⟨b, hb⟩ : ∃ b, b = w1.heap.size := ⟨_, rfl⟩
 rw [← hb] at HS ⊢
 clear hb HC
 go_loopg [] (l.length + 1) (fun gz wr => ∃ (fs : List Fd) (ns : List Int) (j : Nat) (v1 v2 : Value), MSt l ⟨i + 1 + 1, false⟩ fs ns ⟨j, false⟩ gz ∧ MNo w wr p b A cap l j sn v1 v2 fs ns)
 case atStart => exact ⟨[], [], i + 1 + 1, .slice none 0 0, .slice none 0 0, mst_start l _, HS.out, World.ownsRow_nil _ _ _ _, World.ownsRow_nil _ _ _ _⟩
 case round =>
  clear HS
  obtain ⟨fs, ns, j, v1, v2, hmst, hmow⟩ := hrel
  obtain ⟨A1, c1, A2, c2, rfl, rfl, hl1, hl2⟩ := mno_slices hmow
  have HM := Lib.hid hmst
  have HO := Lib.hid hmow
  have HL1 := Lib.hid hl1
  have HL2 := Lib.hid hl2
  have HNF : Hid (fs.length ≤ 100001) := Lib.hid (by have := hmst.ms_cnt; have := HL.out; omega)
  have HNN : Hid (ns.length ≤ 100001) := Lib.hid (by have h1 : ns.length ≤ j := hmst.ms_num; have := hmow.mn_s.ns_j; have := HL.out; omega)
  obtain ⟨g0, hg0⟩ : ∃ g0, g0 = gk := ⟨_, rfl⟩
  subst hg0
  have K0 := True.intro
  clear hmst hmow hl1 hl2
  cases hk : isK l j 4 [125] with
  | true =>
    have HK := Lib.hid hk
    have HT := Lib.hid (mst_end HM.out rfl HO.out.mn_s.ns_j (by rw [← isK_mark HG.out HO.out.mn_s.ns_j (by decide)]; exact hk))
    rw [HT.out] at HD
    clear hk
    go_wp2_with (clear K0; go_at_call 184; refine (nmark_any (ns_at HO.out.mn_s H.out) HL.out [125] ⟨#[125]⟩ rfl).mono ?_; rintro e w2 ⟨rfl, hn⟩; rw [HK.out]; rw [nxt_yes HK.out] at hn; replace HL1 := Lib.hid (typed_nt HL1.out hn HP.out fdR_keep); replace HL2 := Lib.hid (typed_nt HL2.out hn HP.out (fun _ _ h => h)); have HS := Lib.hid (ns_call HO.out.mn_s hn (isK_in HE.out HO.out.mn_s.ns_j (by decide) HK.out)); have r0 := obj_cell HS.out.ns_b 0; have r1 := obj_cell HS.out.ns_b 1; have r2 := obj_cell HS.out.ns_b 2; have hz : w2.heap[w.heap.size]? = some (.cells #[.string ⟨#[]⟩, .slice none 0 0, .slice none 0 0] 43 (0, 0)) := HS.out.ns_0; have z0 := obj_cell hz 0; have z1 := obj_cell hz 1; have z2 := obj_cell hz 2; have y0 := obj_free hz 0; have y1 := obj_free hz 1; have y2 := obj_free hz 2; have HZ := Lib.hid hz; clear hn hz)
    refine bodyPost_ret (v := .agg #[.string sn, .slice A1 fs.length c1, .slice A2 ns.length c2]) ?_ rfl ?_
    ·have hres : Tryz.f112.results = #[.cell 2 43] := by kernel_rfl
     simp only [results, hres]
     go_simp
    ·rw [HD.out]
     have e0 := obj_set HZ.out 0 (.string sn)
     have e1 := obj_set e0 1 (.slice A1 fs.length c1)
     exact ⟨_, .inl ⟨rfl, rfl⟩, nt_set (nt_set (nt_set HS.out.ns_n HP.out (Nat.le_refl _) _ _) HP.out (Nat.le_refl _) _ _) HP.out (Nat.le_refl _) _ _, fun _ => ⟨A1, c1, A2, c2, by rw [HSN.out], rz_typed_set (rz_typed_set (rz_typed_set HL1.out HZ.out (by decide) fdR_keep) e0 (by decide) fdR_keep) e1 (by decide) fdR_keep, rz_typed_set (rz_typed_set (rz_typed_set HL2.out HZ.out (by decide) (fun _ _ h => h)) e0 (by decide) (fun _ _ h => h)) e1 (by decide) (fun _ _ h => h)⟩⟩
  | false =>
    have HK := Lib.hid hk
    have hp5 : isP l ⟨j, false⟩ [125] = false := by rw [← isK_mark HG.out HO.out.mn_s.ns_j (by decide)]; exact hk
    clear hk
    cases hr : isK l j 1 resW with
    | false =>
      have HR := Lib.hid hr
      have HT := Lib.hid (mst_field HM.out rfl HO.out.mn_s.ns_j hp5 (by rw [← isK_word HG.out HO.out.mn_s.ns_j (by decide)]; exact hr))
      clear hr hp5
      go_wp2_with (first
       | (clear K0; go_at_call 184; refine (nmark_any (ns_at HO.out.mn_s H.out) HL.out [125] ⟨#[125]⟩ rfl).mono ?_; rintro e w2 ⟨rfl, hn⟩; rw [HK.out]; rw [nxt_no HK.out] at hn; replace HO := Lib.hid (mno_call HO.out hn HO.out.mn_s.ns_j); have K1 := True.intro; clear hn)
       | (clear K1; go_at_call 109; refine (nword_any (ns_at HO.out.mn_s H.out) HL.out resW ⟨resW.toArray⟩ rfl).mono ?_; rintro e w4 ⟨rfl, hn⟩; rw [HR.out]; rw [nxt_no HR.out] at hn; replace HO := Lib.hid (mno_call HO.out hn HO.out.mn_s.ns_j); clear hn))
      obtain ⟨⟨fd, y⟩, hy⟩ : ∃ z, z = fieldP l ⟨j, false⟩ := ⟨_, rfl⟩
      have HSD := Lib.hid (mno_bel HO.out (Below.refl _ w4).drew)
      have HCF := Lib.hid (nfield_any (ns_at HSD.out.mn_s H.out) HL.out HG.out HE.out)
      have HYI : Hid (y.at_i < l.length) := Lib.hid (by have := field_in HE.out (x := ⟨j, false⟩) HO.out.mn_s.ns_j; rw [← hy] at this; exact this)
      rw [← hy] at HT HCF
      dsimp only at HT HCF
      unfold fdV at HCF
      have hx := HO.out.mn_s.ns_b
      have r1 := obj_cell hx 1
      clear hy hx
      cases hyb : y.at_bad with
      | true =>
        have HB := Lib.hid hyb
        have HF : Hid (r = (⟨nm, fs ++ [fd], ns⟩, y)) := Lib.hid (by rw [HD.out, mst_bad HT.out.2 hyb])
        clear hyb
        refine wp_region_heldX (by kernel_rfl) ?_
        refine rht 0 (.pointer (some ⟨b, 1, none⟩)) (fun U hU => ?_) ?_
        ·go_simp
        refine rht 1 (.slice A1 fs.length c1) (fun U hU => ?_) ?_
        ·subst hU; go_simp
        refine rht 2 (.pointer (some ⟨p, 0, none⟩)) (fun U hU => ?_) ?_
        ·go_simp
        refine wpAnyH_all (rs := [3]) (by kernel_rfl) (by simp) (fun i hi => ?_)
        obtain rfl := List.mem_singleton.mp hi
        refine wpOp_step rfl (fun K hK => ?_)
        go_simp
        go_at_call 187
        refine HCF.out.mono ?_
        rintro e w5 ⟨⟨hb, rfl⟩ | ⟨hb, rfl⟩, hn⟩
        ·exact absurd (hb.symm.trans HB.out) (by decide)
        ·exact ⟨rfl, .nilFunc, ends_bad hb (by rw [HF.out]), by rw [HF.out]; exact nt_trans HSD.out.mn_s.ns_n hn, fun h => by rw [HF.out, hb] at h; cases h⟩
      | false =>
        have HB := Lib.hid hyb
        obtain ⟨j2, hj2⟩ : ∃ j2, j2 = y.at_i := ⟨_, rfl⟩
        have hyj : y = ⟨j2, false⟩ := by rw [hj2]; exact ok_ps hyb
        rw [← hj2] at HYI HCF
        rw [hyj] at HT
        clear hyb hj2 hyj
        go_region_law (first
         | (refine step_append_run (by rfl) _ _ (by rfl) (by rfl) (by rfl) (app_one el_fd _ (own_below HS5.out.mn_f (box_up w5 _)) (heap_alloc_new w5 _) rfl rfl (fd_one fd) HNF.out (Nat.le_trans HS5.out.mn_s.ns_n.nt_only.size (box_up w5 _).size)) ?_
            rintro v9 w9 ⟨⟨A9, c9, rfl⟩, ho9, hg9⟩
            obtain ⟨hs9, hm9⟩ := mno_f (mno_bel HS5.out (box_up w5 _)) ho9 hg9
            have HS9 := Lib.hid hm9
            have s1 := obj_cell hs9.ns_b 1
            have s1f := obj_free hs9.ns_b 1
            clear ho9 hg9 hs9 hm9)
         | (go_simp; go_at_call 187; refine HCF.out.mono ?_; rintro e w5 ⟨⟨hb, rfl⟩ | ⟨hb, rfl⟩, hn⟩
            case inr => exact absurd (hb.symm.trans HB.out) (by decide)
            have HS5 := Lib.hid (mno_call HSD.out hn HYI.out)
            have hx5 := HS5.out.mn_s.ns_b
            have t1 : w5.cell? ⟨b, 1, none⟩ = some (.slice A1 fs.length c1) := obj_cell hx5 1
            have t2 : ∀ o, (w5.alloc o).cell? ⟨b, 1, none⟩ = some (.slice A1 fs.length c1) := (fun o => ((box_up w5 o).cell (p := ⟨b, 1, none⟩) (lt_of_block hx5)).trans t1)
            clear hb hn hx5))
        all_goals
         go_wp2_with fail
         go_roundg (g0 - 1)
         case measure => have := HT.out.1; omega
         case rel => exact ⟨fs ++ [fd], ns, j2, _, _, HT.out.2, HS9.out⟩
    | true =>
      have HR := Lib.hid hr
      have HJ := Lib.hid (isK_in HE.out HO.out.mn_s.ns_j (by decide) hr)
      have HT := Lib.hid (mst_bars HM.out rfl HO.out.mn_s.ns_j hp5 (by rw [← isK_word HG.out HO.out.mn_s.ns_j (by decide)]; exact hr))
      clear hr hp5
      go_wp2_with (first
       | (clear K0; go_at_call 184; refine (nmark_any (ns_at HO.out.mn_s H.out) HL.out [125] ⟨#[125]⟩ rfl).mono ?_; rintro e w2 ⟨rfl, hn⟩; rw [HK.out]; rw [nxt_no HK.out] at hn; replace HO := Lib.hid (mno_call HO.out hn HO.out.mn_s.ns_j); have K1 := True.intro; clear hn)
       | (clear K1; go_at_call 109; refine (nword_any (ns_at HO.out.mn_s H.out) HL.out resW ⟨resW.toArray⟩ rfl).mono ?_; rintro e w4 ⟨rfl, hn⟩; rw [HR.out]; rw [nxt_yes HR.out] at hn; replace HO := Lib.hid (mno_call HO.out hn HJ.out); clear hn))
      obtain ⟨⟨ms, y⟩, hy⟩ : ∃ z, z = barsP l ⟨j + 1, false⟩ := ⟨_, rfl⟩
      have HSD := Lib.hid (mno_bel HO.out (Below.refl _ w4).drew)
      have HCF := Lib.hid (nbarred_any (ns_at HSD.out.mn_s H.out) HL.out HG.out HE.out)
      have HYI : Hid (y.at_i < l.length) := Lib.hid (by have := bars_in HE.out (x := ⟨j + 1, false⟩) HJ.out; rw [← hy] at this; exact this)
      have hny : nextP ⟨j, false⟩ = ⟨j + 1, false⟩ := rfl
      rw [hny] at HT
      rw [← hy] at HT HCF
      dsimp only at HT HCF
      have hx := HO.out.mn_s.ns_b
      have r2 := obj_cell hx 2
      clear hy hx hny
      cases hyb : y.at_bad with
      | true =>
        have HB := Lib.hid hyb
        have HF : Hid (r = (⟨nm, fs, ns ++ ms⟩, y)) := Lib.hid (by rw [HD.out, mst_bad HT.out.2 hyb])
        clear hyb
        refine wp_region_heldX (by kernel_rfl) ?_
        refine rht 0 (.pointer (some ⟨b, 2, none⟩)) (fun U hU => ?_) ?_
        ·go_simp
        refine rht 1 (.slice A2 ns.length c2) (fun U hU => ?_) ?_
        ·subst hU; go_simp
        refine rht 2 (.pointer (some ⟨p, 0, none⟩)) (fun U hU => ?_) ?_
        ·go_simp
        refine wpAnyH_all (rs := [3]) (by kernel_rfl) (by simp) (fun i hi => ?_)
        obtain rfl := List.mem_singleton.mp hi
        refine wpOp_step rfl (fun K hK => ?_)
        go_simp
        go_at_call 186
        refine HCF.out.mono ?_
        rintro e w5 ⟨v, ⟨hb, rfl⟩ | ⟨hb, rfl⟩, hn, -⟩
        ·exact absurd (hb.symm.trans HB.out) (by decide)
        ·exact ⟨rfl, .nilFunc, ends_bad hb (by rw [HF.out]), by rw [HF.out]; exact nt_trans HSD.out.mn_s.ns_n hn, fun h => by rw [HF.out, hb] at h; cases h⟩
      | false =>
        have HB := Lib.hid hyb
        obtain ⟨j2, hj2⟩ : ∃ j2, j2 = y.at_i := ⟨_, rfl⟩
        have hyj : y = ⟨j2, false⟩ := by rw [hj2]; exact ok_ps hyb
        rw [← hj2] at HYI HCF
        rw [hyj] at HT
        have HMN : Hid (ns.length + ms.length ≤ 100001) := Lib.hid (by have h1 : (ns ++ ms).length ≤ j2 := HT.out.2.ms_num; rw [List.length_append] at h1; have := HYI.out; have := HL.out; omega)
        clear hyb hj2 hyj
        go_cut [] from 15 to 21 (fun wx => ∃ v1 v2, MNo w wx p b A cap l j2 sn v1 v2 fs (ns ++ ms))
        case first =>
         go_region_law (first
          | (refine step_append_run (by rfl) _ _ (by rfl) (by rfl) (by rfl) (app_many el_in _ HS5.out.mn_n HLB.out (fun _ _ h => h) (f := inC) (fun _ => rfl) inC_one' rfl HMN.out HS5.out.mn_s.ns_n.nt_only.size) ?_
             rintro v9 w9 ⟨⟨A9, c9, rfl⟩, ho9, hg9⟩
             obtain ⟨hs9, hm9⟩ := mno_n HS5.out rfl ho9 hg9
             have HS9 := Lib.hid hm9
             have s1 := obj_cell hs9.ns_b 2
             have s1f := obj_free hs9.ns_b 2
             clear ho9 hg9 hs9 hm9)
          | (go_simp; go_at_call 186; refine HCF.out.mono ?_; rintro e w5 ⟨v, ⟨hb, rfl⟩ | ⟨hb, rfl⟩, hn, ho⟩
             case inr => exact absurd (hb.symm.trans HB.out) (by decide)
             obtain ⟨-, A5, c5, rfl, hlb⟩ := zs_own (ho hb)
             have HLB := Lib.hid hlb
             have HS5 := Lib.hid (mno_call HSD.out hn HYI.out)
             have hx5 := HS5.out.mn_s.ns_b
             have t1 : w5.cell? ⟨b, 2, none⟩ = some (.slice A2 ns.length c2) := obj_cell hx5 2
             clear hb hn hx5 ho hlb))
         all_goals
          go_wp2_with fail
          go_meet
          case rel => exact ⟨_, _, HS9.out⟩
        case rest =>
         obtain ⟨v1', v2', hm1⟩ := hcut
         have HM1 := Lib.hid hm1
         clear hm1
         go_wp2
         go_roundg (g0 - 1)
         case measure => have := HT.out.1; omega
         case rel => exact ⟨fs, ns ++ ms, j2, v1', v2', HT.out.2, HM1.out⟩
end Go.Proofs.YtcjjphioeneiiaaGreatDoor

/- The document's layer 18: a type is written into a message's row of fields: what stands in memory then. Conditions: those that each theorem names. -/
namespace Go.Proofs.YtcjjphioeneiiaaGreatDoor
open Go.RowKit
set_option linter.unusedVariables false
set_option maxRecDepth 100000

def blkOf (A : Option Addr) : Option Nat := A.map (fun a => a.block)
/-- No two messages' fields lie in one block. -/
def ApartM (ms : List CM) : Prop := ∀ (i j : Nat) x y g, ms[i]? = some x → ms[j]? = some y → i ≠ j → x.cm_m.fields ≠ [] → y.cm_m.fields ≠ [] → blkOf x.cm_a = some g → blkOf y.cm_a ≠ some g

theorem row_set {S : Nat → Prop} {w : World} {g off cap k : Nat} {l : List Fd} (f : Fd) (h : Lst 7 S fdR w (some ⟨g, off, none⟩) cap l) (hk : k < l.length) : Lst 7 S fdR (w.setCells g (off + k * 7) (fdCells f)) (some ⟨g, off, none⟩) cap (l.set k f) := by
 refine ⟨by rw [List.length_set]; exact h.l_le, h.l_max, h.l_nil, fun j x hj => ?_⟩
 by_cases e : j = k
 ·subst e
  rw [List.getElem?_set_self hk] at hj
  obtain rfl := Option.some.inj hj
  obtain ⟨g2, off2, cs, ea, hs, hl, hr, hc⟩ := h.l_at j _ (List.getElem?_eq_getElem hk)
  injection ea with ea
  injection ea with e1 e2
  subst e1 e2
  refine ⟨g, off, fdCells f, rfl, hs, rfl, rfl, fun i u hu => ?_⟩
  have hi : i < (fdCells f).length := (List.getElem?_eq_some_iff.mp hu).1
  rw [World.cell?_setCells_in g (fdCells f) (off + j * 7) w (fun t ht => by
   have ht7 : t < cs.length := by rw [hl]; exact ht
   rw [hc t _ (List.getElem?_eq_getElem ht7)]; rfl) i hi]
  rw [← hu, List.getElem?_eq_getElem hi]
 ·rw [List.getElem?_set_ne (fun h => e h.symm)] at hj
  obtain ⟨g2, off2, cs, ea, hs, hl, hr, hc⟩ := h.l_at j x hj
  injection ea with ea
  injection ea with e1 e2
  subst e1 e2
  refine ⟨g, off, cs, rfl, hs, hl, fdR_keep _ _ hr, fun i u hu => ?_⟩
  have hi : i < 7 := by have := (List.getElem?_eq_some_iff.mp hu).1; omega
  have hlt : off + j * 7 + i < off + k * 7 ∨ off + k * 7 + (fdCells f).length ≤ off + j * 7 + i := by
   rw [show (fdCells f).length = 7 from rfl]
   omega
  exact (World.cell?_setCells_out g (fdCells f) (off + k * 7) w ⟨g, off + j * 7 + i, none⟩ (fun _ _ => hlt)).trans (hc i u hu)
theorem sq_flat_set {α β : Type} {f : α → List β} : ∀ {l : List α} {i : Nat} {x y : α}, l[i]? = some x → f y = f x → (l.set i y).flatMap f = l.flatMap f
 | [], i, x, y, h, _ => by simp at h
 | a :: r, 0, x, y, h, e => by
   obtain rfl : a = x := by simpa using h
   simp [e]
 | a :: r, i + 1, x, y, h, e => by
   have := sq_flat_set (l := r) (i := i) (by simpa using h) e
   simp [this]
theorem sq_cells_kind {g : Nat} {t : TypeId} : ∀ (vs : List Value) (o : Nat) (w : World) (cs : Array Value), w.heap[g]? = some (.cells cs t (0, 0)) → ∃ cs', (w.setCells g o vs).heap[g]? = some (.cells cs' t (0, 0))
 | [], _, _, cs, h => ⟨cs, h⟩
 | v :: r, o, w, cs, h => sq_cells_kind r (o + 1) _ _ (obj_set h o v)
def setF (x : CM) (k : Nat) (f : Fd) : CM := { x with cm_m := { x.cm_m with fields := x.cm_m.fields.set k f } }
section
variable {wr : World} {ob base i k g off : Nat} {ve vm : Value} {es : List CE} {ms : List CM} {x : CM} {f : Fd}
theorem cpy_row (h : Cpy wr ob base ve vm es ms) (hx : ms[i]? = some x) (hA : x.cm_a = some ⟨g, off, none⟩) (hk : k < x.cm_m.fields.length) : base ≤ g ∧ ∃ cs, wr.heap[g]? = some (.cells cs 70 (0, 0)) := by
 obtain ⟨g2, off2, cs, ea, hs, _⟩ := (h.c_f x (List.mem_of_getElem? hx)).l_at k _ (List.getElem?_eq_getElem hk)
 rw [hA] at ea
 injection ea with ea
 injection ea with e1 e2
 subst e1
 exact hs
theorem cpy_type (h : Cpy wr ob base ve vm es ms) (ha : ApartM ms) (hx : ms[i]? = some x) (hA : x.cm_a = some ⟨g, off, none⟩) (hk : k < x.cm_m.fields.length) :
 Cpy (wr.setCells g (off + k * 7) (fdCells f)) ob base ve vm es (ms.set i (setF x k f)) ∧ ApartM (ms.set i (setF x k f)) := by
 obtain ⟨hgb, gs, hg⟩ := cpy_row h hx hA hk
 have hil := (List.getElem?_eq_some_iff.mp hx).1
 have hoth : ∀ b : Nat, b < wr.heap.size → b ≠ g → (wr.setCells g (off + k * 7) (fdCells f)).heap[b]? = wr.heap[b]? := fun b hb hne => World.heap_setCells_other wr g _ _ hb hne
 have hty : ∀ (b : Nat) (ds : Array Value) (t : TypeId), wr.heap[b]? = some (.cells ds t (0, 0)) → t ≠ 70 → (wr.setCells g (off + k * 7) (fdCells f)).heap[b]? = wr.heap[b]? := fun b ds t hb ht => hoth b (lt_of_block hb) (fun e => by
  rw [e, hg] at hb
  injection hb with hb
  injection hb with _ e2
  exact ht e2.symm)
 have hkind : ∃ ds, (wr.setCells g (off + k * 7) (fdCells f)).heap[g]? = some (.cells ds 70 (0, 0)) := sq_cells_kind (fdCells f) (off + k * 7) wr gs hg
 refine ⟨⟨(hty ob _ _ h.c_box (by decide)).trans h.c_box, ?_, ?_, ?_, ?_, ?_⟩, ?_⟩
 ·exact own_block h.c_e (fun q hq => by
   obtain ⟨_, ds, hd⟩ := own_typed h.c_e hq
   exact hty q ds _ hd (by decide))
 ·rw [List.length_set, sq_flat_set hx (by show cmCells (setF x k f) = cmCells x; unfold cmCells setF; simp)]
  exact own_block h.c_m (fun q hq => by
   obtain ⟨_, ds, hd⟩ := own_typed h.c_m hq
   exact hty q ds _ hd (by decide))
 ·exact fun y hy => lst_keep (h.c_v y hy) vlR_keep (fun q ⟨h1, ds, hd⟩ => ⟨h1, ds, (hty q ds _ hd (by decide)).trans hd⟩) (fun p ⟨h1, ds, hd⟩ _ => World.cell?_of_block (hty p.block ds _ hd (by decide)))
 ·intro y hy
  obtain ⟨j, hj⟩ := List.getElem?_of_mem hy
  have hty1 : ∀ q, Typed base wr 1 q → Typed base (wr.setCells g (off + k * 7) (fdCells f)) 1 q := fun q ⟨h1, ds, hd⟩ => by
   by_cases e : q = g
   ·subst e; exact ⟨h1, hkind⟩
   ·exact ⟨h1, ds, (hoth q (lt_of_block hd) e).trans hd⟩
  by_cases e : j = i
  ·subst e
   rw [List.getElem?_set_self hil] at hj
   obtain rfl := Option.some.inj hj
   have hf := h.c_f x (List.mem_of_getElem? hx)
   rw [hA] at hf
   show Lst 7 _ fdR _ x.cm_a x.cm_c (x.cm_m.fields.set k f)
   rw [hA]
   exact lst_keep (row_set f hf hk) fdR_keep hty1 (fun _ _ _ => rfl)
  ·rw [List.getElem?_set_ne (fun h => e h.symm)] at hj
   have hf := h.c_f y (List.mem_of_getElem? hj)
   refine ⟨hf.l_le, hf.l_max, hf.l_nil, fun t z ht => ?_⟩
   obtain ⟨g2, off2, cs, ea, hs, hl, hr, hc⟩ := hf.l_at t z ht
   have hne : g2 ≠ g := fun e2 => ha i j x y g hx hj (fun e3 => e e3.symm) (fun e3 => by rw [e3] at hk; simp at hk) (fun e3 => by rw [e3] at ht; simp at ht) (by rw [hA]; rfl) (by rw [ea, ← e2]; rfl)
   exact ⟨g2, off2, cs, ea, hty1 g2 hs, hl, fdR_keep _ _ hr, fun q u hu => (World.cell?_of_block (a := ⟨g2, off2 + t * 7 + q, none⟩) (hoth g2 (by obtain ⟨_, ds, hd⟩ := hs; exact lt_of_block hd) hne)).trans (hc q u hu)⟩
 ·intro y hy
  obtain ⟨j, hj⟩ := List.getElem?_of_mem hy
  have hb : ∃ z ∈ ms, z.cm_b = y.cm_b ∧ z.cm_d = y.cm_d ∧ z.cm_m.barred = y.cm_m.barred := by
   by_cases e : j = i
   ·subst e
    rw [List.getElem?_set_self hil] at hj
    obtain rfl := Option.some.inj hj
    exact ⟨x, List.mem_of_getElem? hx, rfl, rfl, rfl⟩
   ·rw [List.getElem?_set_ne (fun h => e h.symm)] at hj
    exact ⟨y, List.mem_of_getElem? hj, rfl, rfl, rfl⟩
  obtain ⟨z, hz, e1, e2, e3⟩ := hb
  rw [← e1, ← e2, ← e3]
  exact lst_keep (h.c_b z hz) inR_keep (fun q ⟨h1, ds, hd⟩ => ⟨h1, ds, (hty q ds _ hd (by decide)).trans hd⟩) (fun p ⟨h1, ds, hd⟩ _ => World.cell?_of_block (hty p.block ds _ hd (by decide)))
 ·intro a b y z q hy hz hab hny hnz hq
  have hback : ∀ (c : Nat) v, (ms.set i (setF x k f))[c]? = some v → ∃ v', ms[c]? = some v' ∧ v'.cm_a = v.cm_a ∧ (v.cm_m.fields ≠ [] → v'.cm_m.fields ≠ []) := fun c v hv => by
   by_cases e : c = i
   ·subst e
    rw [List.getElem?_set_self hil] at hv
    obtain rfl := Option.some.inj hv
    exact ⟨x, hx, rfl, fun _ e3 => by rw [e3] at hk; simp at hk⟩
   ·rw [List.getElem?_set_ne (fun h => e h.symm)] at hv
    exact ⟨v, hv, rfl, id⟩
  obtain ⟨y', hy', e1, n1⟩ := hback a y hy
  obtain ⟨z', hz', e2, n2⟩ := hback b z hz
  rw [← e2]
  exact ha a b y' z' q hy' hz' hab (n1 hny) (n2 hnz) (by rw [e1]; exact hq)
end
end Go.Proofs.YtcjjphioeneiiaaGreatDoor

/- The document's layer 18: the types of all fields are written into their rows. Conditions: those that each theorem names. -/
namespace Go.Proofs.YtcjjphioeneiiaaGreatDoor
open Go.RowKit
set_option linter.unusedVariables false
set_option maxRecDepth 100000

/-- A message whose first k fields are typed. -/
def midM (s : Sc) (k : Nat) (x : CM) : CM := { x with cm_m := { x.cm_m with fields := (x.cm_m.fields.take k).map (typedF s) ++ x.cm_m.fields.drop k } }
def tyM (s : Sc) (x : CM) : CM := { x with cm_m := typedM s x.cm_m }
def tyAt (s : Sc) (i k j : Nat) (x : CM) : CM := if j < i then tyM s x else if j = i then midM s k x else x
theorem mid_zero (s : Sc) (x : CM) : midM s 0 x = x := rfl
theorem mid_all (s : Sc) (x : CM) {k : Nat} (h : x.cm_m.fields.length ≤ k) : midM s k x = tyM s x := by
 unfold midM tyM typedM
 rw [List.take_of_length_le h, List.drop_of_length_le h, List.append_nil]
theorem mid_len (s : Sc) (x : CM) (k : Nat) : (midM s k x).cm_m.fields.length = x.cm_m.fields.length := by
 unfold midM
 simp
 omega
theorem mid_at (s : Sc) (x : CM) {k : Nat} {f : Fd} (h : x.cm_m.fields[k]? = some f) : (midM s k x).cm_m.fields[k]? = some f := by
 have hk := (List.getElem?_eq_some_iff.mp h).1
 show ((x.cm_m.fields.take k).map (typedF s) ++ x.cm_m.fields.drop k)[k]? = some f
 rw [List.getElem?_append_right (by rw [List.length_map, List.length_take]; omega), List.length_map, List.length_take, Nat.min_eq_left (by omega), Nat.sub_self, List.getElem?_drop]
 exact h
theorem mid_next (s : Sc) (x : CM) {k : Nat} {f : Fd} (h : x.cm_m.fields[k]? = some f) : setF (midM s k x) k (typedF s f) = midM s (k + 1) x := by
 have hk := (List.getElem?_eq_some_iff.mp h).1
 have e : ((x.cm_m.fields.take k).map (typedF s) ++ x.cm_m.fields.drop k).set k (typedF s f) = (x.cm_m.fields.take (k + 1)).map (typedF s) ++ x.cm_m.fields.drop (k + 1) := by
  have hf : x.cm_m.fields[k] = f := by rw [List.getElem?_eq_getElem hk] at h; exact Option.some.inj h
  rw [List.set_append_right _ _ (by rw [List.length_map, List.length_take]; omega), List.length_map, List.length_take, Nat.min_eq_left (by omega), Nat.sub_self, List.drop_eq_getElem_cons hk, List.set_cons_zero, List.take_add_one, h, List.map_append, List.append_assoc]
  rfl
 unfold setF midM
 dsimp only
 rw [e]
/-- The messages under way. -/
structure TySt (s : Sc) (ms ms' : List CM) (i k : Nat) : Prop where
 ts_len : ms'.length = ms.length
 ts_at : ∀ (j : Nat) x, ms[j]? = some x → ms'[j]? = some (tyAt s i k j x)
theorem tyst_start (s : Sc) (ms : List CM) : TySt s ms ms 0 0 := ⟨rfl, fun j x h => by
 unfold tyAt
 rw [if_neg (by omega)]
 split
 ·rw [mid_zero]; exact h
 ·exact h⟩
section
variable {s : Sc} {ms ms' : List CM} {i k : Nat} {x : CM}
theorem tyst_now (h : TySt s ms ms' i k) (hx : ms[i]? = some x) : ms'[i]? = some (midM s k x) := by
 have := h.ts_at i x hx
 unfold tyAt at this
 rwa [if_neg (by omega), if_pos rfl] at this
theorem tyst_field (h : TySt s ms ms' i k) (hx : ms[i]? = some x) {f : Fd} (hf : x.cm_m.fields[k]? = some f) : TySt s ms (ms'.set i (setF (midM s k x) k (typedF s f))) i (k + 1) := by
 have hil := (List.getElem?_eq_some_iff.mp (tyst_now h hx)).1
 refine ⟨by rw [List.length_set]; exact h.ts_len, fun j y hy => ?_⟩
 by_cases e : j = i
 ·subst e
  rw [hx] at hy
  obtain rfl := Option.some.inj hy
  rw [List.getElem?_set_self hil, mid_next s x hf]
  unfold tyAt
  rw [if_neg (by omega), if_pos rfl]
 ·rw [List.getElem?_set_ne (fun h => e h.symm), h.ts_at j y hy]
  unfold tyAt
  rw [if_neg e, if_neg e]
theorem tyst_next (h : TySt s ms ms' i k) (hx : ms[i]? = some x) (hk : x.cm_m.fields.length ≤ k) : TySt s ms ms' (i + 1) 0 := by
 refine ⟨h.ts_len, fun j y hy => ?_⟩
 rw [h.ts_at j y hy]
 unfold tyAt
 by_cases e : j = i
 ·subst e
  rw [hx] at hy
  obtain rfl := Option.some.inj hy
  rw [if_neg (by omega), if_pos rfl, if_pos (by omega), mid_all s x hk]
 ·by_cases e2 : j < i
  ·rw [if_pos e2, if_pos (by omega)]
  ·rw [if_neg e2, if_neg e, if_neg (by omega)]
   split
   ·rw [mid_zero]
   ·rfl
theorem tyst_end (h : TySt s ms ms' i 0) (hi : ms.length ≤ i) : ms' = ms.map (tyM s) := by
 apply List.ext_getElem?
 intro j
 rw [List.getElem?_map]
 cases hj : ms[j]? with
 | none =>
   rw [List.getElem?_eq_none (by rw [h.ts_len]; exact List.getElem?_eq_none_iff.mp hj)]
   rfl
 | some x =>
   rw [h.ts_at j x hj]
   have := (List.getElem?_eq_some_iff.mp hj).1
   unfold tyAt
   rw [if_pos (by omega)]
   rfl
end

theorem cm_cells {w : World} {base n n2 cap2 i : Nat} {A2 : Option Addr} {t : TypeId} {ms : List CM} {x : CM} (h : w.ownsRow base t 3 (.slice A2 n2 cap2) n (ms.flatMap cmCells)) (hx : ms[i]? = some x) :
 ∃ g, A2 = some ⟨g, 0, none⟩ ∧ w.cell? ⟨g, i * 3, none⟩ = some (.string (strOf x.cm_m.name)) ∧ w.cell? ⟨g, i * 3 + 1, none⟩ = some (.slice x.cm_a x.cm_m.fields.length x.cm_c) ∧ w.cell? ⟨g, i * 3 + 2, none⟩ = some (.slice x.cm_b x.cm_m.barred.length x.cm_d) := by
 have hil := (List.getElem?_eq_some_iff.mp hx).1
 have hfl := flat_length (f := cmCells) 3 (fun _ => rfl) ms
 have hn : n = ms.length := by have := h.1; omega
 obtain ⟨g, cp, hv, hb, _, _, hlt⟩ := own_pos h (by omega)
 injection hv with e1 e2 e3
 subst e1
 have hc : ∀ j u, (cmCells x)[j]? = some u → j < 3 → w.cell? ⟨g, i * 3 + j, none⟩ = some u := fun j u hu hj => by
  have := own_cell h rfl ((flat_get cmCells 3 (fun _ => rfl) ms i x j hx hj).trans hu)
  rwa [Nat.mul_comm i 3]
 exact ⟨g, rfl, hc 0 _ rfl (by decide), hc 1 _ rfl (by decide), hc 2 _ rfl (by decide)⟩
theorem tape_setCells (w : World) (g : Nat) : ∀ (vs : List Value) (o : Nat), (w.setCells g o vs).tape = w.tape := fun vs => by
 induction vs generalizing w with
 | nil => intro o; rfl
 | cons v r ih => intro o; exact ih (w.setCell ⟨g, o, none⟩ v) (o + 1)
theorem size_setCells2 (w : World) (g : Nat) : ∀ (vs : List Value) (o : Nat), (w.setCells g o vs).heap.size = w.heap.size := fun vs => by
 induction vs generalizing w with
 | nil => intro o; rfl
 | cons v r ih => intro o; exact (ih (w.setCell ⟨g, o, none⟩ v) (o + 1)).trans (by simp [World.setCell])
theorem cpy_bel {w u : World} {ob base : Nat} {ve vm : Value} {es : List CE} {ms : List CM} (h : Cpy w ob base ve vm es ms) (hb : Below w.heap.size w u) : Cpy u ob base ve vm es ms :=
 ⟨(hb.block _ (lt_of_block h.c_box)).trans h.c_box, own_below h.c_e hb, own_below h.c_m hb, fun x hx => typed_keep (h.c_v x hx) (stays_below hb) (by decide) vlR_keep, fun x hx => typed_keep (h.c_f x hx) (stays_below hb) (by decide) fdR_keep, fun x hx => typed_keep (h.c_b x hx) (stays_below hb) (by decide) inR_keep⟩
end Go.Proofs.YtcjjphioeneiiaaGreatDoor

/- The document's layer 18: the reader and the schema that it gathers, in memory. Conditions: those that each theorem names. -/
namespace Go.Proofs.YtcjjphioeneiiaaGreatDoor
open Go.RowKit
set_option linter.unusedVariables false
set_option maxRecDepth 100000

section
variable {V wr w' W2 : World} {p ob cap : Nat} {A : Option Addr} {l : List Tk} {y y' : Ps} {ve vm v2 : Value} {es : List CE} {ms : List CM}
theorem new_marks {base : Nat} {x : CM} (hx : Lst 7 (Typed base wr 1) fdR wr x.cm_a x.cm_c x.cm_m.fields) : ∀ g, x.cm_m.fields ≠ [] → blkOf x.cm_a = some g → base ≤ g := fun g hn hg => by
 have hl : 0 < x.cm_m.fields.length := List.length_pos_iff.mpr hn
 obtain ⟨g2, off, cs, e, ⟨hb, _⟩, _⟩ := hx.l_at 0 _ (List.getElem?_eq_getElem hl)
 rw [e] at hg
 injection hg with hg
 have hg' : g2 = g := hg
 rw [← hg']
 exact hb
end
end Go.Proofs.YtcjjphioeneiiaaGreatDoor
