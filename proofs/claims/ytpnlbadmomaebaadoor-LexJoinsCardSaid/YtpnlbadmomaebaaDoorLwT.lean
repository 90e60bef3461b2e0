/- The program's layer 10: the text that a text begins with, by the library's Cut, CutPrefix and strings.Builder. Conditions: LexEnv; those that each theorem names. -/
import Derived.Test.YtpnlbadmomaebaaDoorLwA
import Derived.Test.YtpnlbadmomaebaaDoorLyCp
import Derived.Test.YtpnlbadmomaebaaDoorLyCt
import Derived.Test.YtpnlbadmomaebaaDoorSbS
import Derived.Test.YtpnlbadmomaebaaDoorSbT
import Derived.Deep.LoopGhost
namespace Go.Proofs.YtpnlbadmomaebaaDoor
open Go.RowKit
set_option linter.unusedVariables false
set_option maxRecDepth 100000

theorem cq_any (t : List UInt8) (w : World) : Calls Tryd.prog 40 #[.string (strOf t), .string ⟨#[39]⟩] w fun e w' => e = .returned (.tuple #[.string (strOf (Lib.trimPrefix t [39])), .bool (Lib.hasPrefix t [39])]) ∧ w' = w := Any.strings_CutPrefix lcp_lays (strOf t) ⟨#[39]⟩ w
/-- What Cut answers at a quote. -/
def cutV (t : List UInt8) : Value := if upto 39 t < t.length then .tuple #[.string (strOf (t.take (upto 39 t))), .string (strOf (t.drop (upto 39 t + 1))), .bool true] else .tuple #[.string (strOf t), .string ⟨#[]⟩, .bool false]
theorem ct_any (t : List UInt8) (hl : t.length ≤ 1000000) (w : World) (env : LexEnv w) :
    Calls Tryd.prog 42 #[.string (strOf t), .string ⟨#[39]⟩] w fun e w' => e = .returned (cutV t) ∧ ∃ n, w' = w.drewN n := by
  obtain ⟨m, hm⟩ := env.mxl
  have hz : (strOf t).size = t.length := str_size t
  refine Calls.mono (Any.strings_Cut lct_lays (strOf t) ⟨#[39]⟩ m w (by omega) hm) ?_
  rintro e w' ⟨rfl, hw⟩
  refine ⟨?_, hw⟩
  have e1 : Lib.cut (strOf t).data.toList (⟨#[39]⟩ : ByteArray).data.toList = if upto 39 t < t.length then (t.take (upto 39 t), t.drop (upto 39 t + 1), true) else (t, [], false) := cut_at 39 t
  rw [e1]
  unfold cutV
  by_cases h : upto 39 t < t.length
  · rw [if_pos h, if_pos h]; rfl
  · rw [if_neg h, if_neg h]; rfl
theorem sb_str (B b : Nat) (bs l : List UInt8) (w : World) (h : Lib.IsBuilder 67 5 B b (cellsOf bs) w) (hl : bs.length + l.length ≤ 1000000) (hBw : B ≤ w.heap.size) :
    Calls Tryd.prog 43 #[.pointer (some ⟨b, 0, none⟩), .string (strOf l)] w fun e w' => ∃ v, e = .returned v ∧ Lib.IsBuilder 67 5 B b (cellsOf (bs ++ l)) w' ∧ Below B w w' := by
  have hz : (strOf l).size = l.length := str_size l
  refine Calls.mono (Any.Builder_WriteString sbt_lays sbt_extra B b (cellsOf bs) (strOf l) w h (by rw [cellsOf_length]; omega) hBw) ?_
  rintro e w' ⟨rfl, h1, h2⟩
  exact ⟨_, rfl, .inr (by rw [show cellsOf (bs ++ l) = cellsOf bs ++ cellsOf l by simp [cellsOf]]; exact h1), h2⟩
theorem sb_tx (B b : Nat) (bs : List UInt8) (w : World) (h : Lib.IsBuilder 67 5 B b (cellsOf bs) w) (hBw : B ≤ w.heap.size) :
    Calls Tryd.prog 44 #[.pointer (some ⟨b, 0, none⟩)] w fun e w' => e = .returned (.string (strOf bs)) ∧ Below B w w' :=
  Any.Builder_String_any sbs_lays sbs_extra B b bs w h hBw
theorem pre39_yes {l : List UInt8} (h : Lib.hasPrefix l [39] = true) : ∃ d, l[0]? = some d ∧ d.toNat = 39 := by
  cases l with
  | nil => simp [Lib.hasPrefix] at h
  | cons d q =>
    simp [Lib.hasPrefix, List.isPrefixOf] at h
    subst h
    exact ⟨39, rfl, rfl⟩
theorem pre39_no {l : List UInt8} (h : Lib.hasPrefix l [39] = false) : ∀ d, l[0]? = some d → d.toNat ≠ 39 := by
  intro d hd e
  cases l with
  | nil => simp at hd
  | cons c q =>
    simp at hd
    subst hd
    have : c = 39 := UInt8.toNat_inj.mp e
    subst this
    simp [Lib.hasPrefix, List.isPrefixOf] at h

set_option maxHeartbeats 8000000 in
theorem xtext_any (t : List UInt8) (c : UInt8) (w : World) (env : LexEnv w) (hl : t.length ≤ 1000) (h0 : t[0]? = some c) (h39 : c.toNat = 39) :
    Calls Tryd.prog 29 #[.string (strOf t)] w fun e w' => e = .returned (oneV (txtR t)) ∧ Below w.heap.size w w' := by
  have hres : Tryd.f29.results = #[.cell 2 37, .tmp 3] := by kernel_rfl
  have HRS := Lib.hid hres
  have hn0 : 1 ≤ t.length := by have := (List.getElem?_eq_some_iff.mp h0).1; omega
  obtain ⟨wb, hwb⟩ : ∃ wb, wb = w.alloc (.cells #[.int .i64 0, .string ⟨#[]⟩, .int .u64 0, .bool false, .int .i64 0] 37) := ⟨_, rfl⟩
  have hsb : wb.heap.size = w.heap.size + 1 := by rw [hwb]; simp
  have HB0 : Hid (Below w.heap.size w wb) := Lib.hid (by rw [hwb]; exact (Below.refl _ w).alloc (Nat.le_refl _) _)
  have HBX : Hid (wb.heap[w.heap.size]? = some (.cells #[.int .i64 0, .string ⟨#[]⟩, .int .u64 0, .bool false, .int .i64 0] 37 (0, 0))) := Lib.hid (by rw [hwb]; exact heap_alloc_new w _)
  have HE0 := Lib.hid (env.carry HB0.out)
  have HI0 : Hid (Lib.IsBuilder 67 5 (w.heap.size + 1) (w.heap.size + 1) (cellsOf []) (wb.alloc (.cells #[.pointer none, .slice none 0 0] 67))) := Lib.hid (by have h := Lib.fresh_isBuilder 67 5 wb; rw [hsb] at h; exact h)
  have HBE0 : Hid (Below wb.heap.size wb (wb.alloc (.cells #[.pointer none, .slice none 0 0] 67))) := Lib.hid ((Below.refl _ wb).alloc (Nat.le_refl _) _)
  obtain ⟨n, hn⟩ : ∃ n, n = t.length := ⟨_, rfl⟩
  obtain ⟨str, hstr⟩ : ∃ str, str = strOf t := ⟨_, rfl⟩
  have hsz : str.size = n := by rw [hstr, str_size, hn]
  obtain ⟨s1, hs1⟩ : ∃ s1, s1 = strOf (t.drop 1) := ⟨_, rfl⟩
  have hex1 : str.extract 1 n = s1 := by rw [hs1, hstr, strOf_extract, hn, List.take_length]
  have g1 : (1 : Int) ≤ (n : Int) := by omega
  have HS1 := Lib.hid hs1
  have HN := Lib.hid hn
  have H0 := Lib.hid h0
  have HT0 := Lib.hid (textAt_start t)
  rw [← hn] at hl hn0
  rw [← hstr]
  rw [hsb] at HBE0
  clear hn hstr hs1 h0 env hres
  go_enter Tryd.func29, Tryd.ntmps29
  go_wp2
  rw [← hwb]
  go_loopg [5] (n - 1) (fun g x wr => ∃ (i : Nat) (o : List UInt8), x = .string (strOf (t.drop i)) ∧ i + g = n ∧ 1 ≤ i ∧ TextAt t o i ∧ o.length ≤ i ∧ Lib.IsBuilder 67 5 (w.heap.size + 1) (w.heap.size + 1) (cellsOf o) wr ∧ Below (w.heap.size + 1) wb wr)
  case atStart => exact ⟨1, [], by rw [HS1.out], by omega, Nat.le_refl _, HT0.out, Nat.zero_le _, HI0.out, HBE0.out⟩
  case round =>
    obtain ⟨i, o, rfl, hig, hi1, hta, hoi, hib, hbe⟩ := hrel
    obtain ⟨g0, hg0⟩ : ∃ g0, g0 = gk := ⟨_, rfl⟩
    subst hg0
    have HTA := Lib.hid hta
    have HIB := Lib.hid hib
    have HBE := Lib.hid hbe
    clear hta hib hbe
    have hsw := HBE.out.size
    rw [hsb] at hsw
    have HEW := Lib.hid (HE0.out.carry (hsb ▸ HBE.out))
    have HCT := Lib.hid (ct_any (t.drop i) (by rw [List.length_drop, ← HN.out]; omega) wr HEW.out)
    have hul := upto_le 39 (t.drop i)
    have hdl : (t.drop i).length = n - i := by rw [List.length_drop, ← HN.out]
    have hbx := (HBE.out.block w.heap.size (Nat.lt_succ_self _)).trans HBX.out
    have r0 := obj_cell hbx 0
    have q0 := obj_free hbx 0
    have r1 := obj_cell hbx 1
    have q1 := obj_free hbx 1
    have r2 := obj_cell hbx 2
    have q2 := obj_free hbx 2
    have r3 := obj_cell hbx 3
    have q3 := obj_free hbx 3
    have r4 := obj_cell hbx 4
    have q4 := obj_free hbx 4
    have HBN : Hid (∀ j, Below (w.heap.size + 1) wb (wr.drewN j)) := Lib.hid (fun j => ⟨HBE.out.os, HBE.out.tape, HBE.out.output, HBE.out.size, HBE.out.block⟩)
    have HIN : Hid (∀ j, Lib.IsBuilder 67 5 (w.heap.size + 1) (w.heap.size + 1) (cellsOf o) (wr.drewN j)) := Lib.hid (fun j => HIB.out)
    have hsn : ∀ j, w.heap.size + 1 ≤ (wr.drewN j).heap.size := fun j => hsw
    have HSN := Lib.hid hsn
    clear hsn hbx
    obtain ⟨rs, hrs⟩ : ∃ rs, rs = strOf (t.drop i) := ⟨_, rfl⟩
    have hpv := (rfl : cutV (t.drop i) = cutV (t.drop i))
    conv at hpv => rhs; unfold cutV
    by_cases hq : upto 39 (t.drop i) < (t.drop i).length
    · rw [if_pos hq] at hpv
      obtain ⟨k, hk⟩ : ∃ k, k = upto 39 (t.drop i) := ⟨_, rfl⟩
      obtain ⟨l, hlv⟩ : ∃ l, l = t.drop (i + k + 1) := ⟨_, rfl⟩
      have hll : l.length = n - (i + k + 1) := by rw [hlv, List.length_drop, ← HN.out]
      rw [← hk, List.drop_drop, show i + (k + 1) = i + k + 1 by omega, ← hlv] at hpv
      rw [hpv] at HCT
      have hkn : i + k + 1 ≤ n := by rw [← hk] at hq; omega
      have hpl : ((t.drop i).take k).length = k := by rw [List.length_take]; omega
      have HW1 := Lib.hid (fun u h hw => sb_str (w.heap.size + 1) (w.heap.size + 1) o ((t.drop i).take k) u h (by omega) hw)
      have HW2 := Lib.hid (fun u h hw => sb_str (w.heap.size + 1) (w.heap.size + 1) (o ++ (t.drop i).take k) [39] u h (by rw [List.length_append, hpl]; simp; omega) hw)
      rw [show strOf [39] = ⟨#[39]⟩ from rfl] at HW2
      have HW3 := Lib.hid (fun u h hw => sb_tx (w.heap.size + 1) (w.heap.size + 1) (o ++ (t.drop i).take k) u h hw)
      have HCQ := Lib.hid (fun u => cq_any l u)
      obtain ⟨pc, hpc⟩ : ∃ pc, pc = strOf ((t.drop i).take k) := ⟨_, rfl⟩
      obtain ⟨bh, hbh⟩ : ∃ bh, bh = strOf l := ⟨_, rfl⟩
      have hbz : bh.size = n - (i + k + 1) := by rw [hbh, str_size, hll]
      obtain ⟨z, hz⟩ : ∃ z, z = i + k + 1 := ⟨_, rfl⟩
      have hgz : (n : Int) - ((n - z : Nat) : Int) = (z : Int) := by omega
      have hlz : l[0]? = t[i + k + 1]? := by rw [hlv, List.getElem?_drop, Nat.add_zero]
      have hol : ((o ++ (t.drop i).take k) ++ [39]).length ≤ i + k + 2 := by rw [List.length_append, List.length_append, hpl]; simp; omega
      rw [← hrs, ← hpc, ← hbh] at HCT
      rw [← hpc] at HW1
      rw [← hbh] at HCQ
      rw [← hz] at hbz hkn
      have HZ := Lib.hid hz
      cases hp : Lib.hasPrefix l [39] with
      | true =>
        obtain ⟨d, hd, hd39⟩ := pre39_yes hp
        rw [hlz] at hd
        have HTN : Hid (TextAt t ((o ++ (t.drop i).take k) ++ [39]) (i + k + 2)) := Lib.hid (by
          have h := txt_more HTA.out hi1 hq (d := d) (by rw [← hk]; exact hd) hd39
          rw [← hk] at h
          exact h)
        have htr : Lib.trimPrefix l [39] = t.drop (i + k + 2) := by
          unfold Lib.trimPrefix
          rw [hp, if_pos rfl, hlv, List.drop_drop]
          rfl
        rw [hp, htr] at HCQ
        have hkn2 : i + k + 2 ≤ n := by
          have := (List.getElem?_eq_some_iff.mp hd).1
          rw [← HN.out] at this; omega
        clear htr hp hd hd39 hlz hz hbh hpc hll hlv hpl hk hq hpv hdl hul hgz
        rw [← hrs]
        clear hrs
        go_wp2_with (first
          | (go_at_call 42; refine HCT.out.mono ?_; rintro e w2 ⟨rfl, n2, rfl⟩)
          | (go_at_call 43; with_reducible refine (HW1.out _ (HIN.out n2) (HSN.out n2)).mono ?_; rintro e w3 ⟨v3, rfl, hib3, hb3⟩; have HIB3 := Lib.hid hib3; have HB3 := Lib.hid ((HBN.out n2).trans hb3); have HS3 := Lib.hid (Nat.le_trans (HSN.out n2) hb3.size); clear hib3 hb3)
          | (go_at_call 43; with_reducible refine (HW2.out _ HIB3.out HS3.out).mono ?_; rintro e w4 ⟨v4, rfl, hib4, hb4⟩; have HIB4 := Lib.hid hib4; have HB4 := Lib.hid (HB3.out.trans hb4); clear hib4 hb4)
          | (go_at_call 40; refine (HCQ.out _).mono ?_; rintro e w5 ⟨rfl, rfl⟩))
        go_roundg (n - (i + k + 2))
        case measure => omega
        case rel => exact ⟨i + k + 2, _, rfl, by omega, by omega, HTN.out, hol, HIB4.out, HB4.out⟩
      | false =>
        have HTE : Hid (txtR t = (⟨3, o ++ (t.drop i).take k, 0, false, 0⟩, z)) := Lib.hid (by
          have hr := textR_shut (t.drop i) hq (fun d h' => pre39_no hp d (by rw [hlz, ← h', List.getElem?_drop, ← hk]; rfl))
          have h := txt_end HTA.out hi1 H0.out h39 hr
          unfold txtR
          rw [h, ← hk, if_pos (by dsimp only; omega), HZ.out]
          rfl)
        have htr : Lib.trimPrefix l [39] = l := by
          unfold Lib.trimPrefix
          rw [hp, if_neg (by decide)]
        rw [hp, htr, ← hbh] at HCQ
        clear htr hp hlz hz hbh hpc hll hlv hpl hk hq hpv hdl hul hol
        rw [← hrs]
        clear hrs
        go_wp2_with (first
          | (go_at_call 42; refine HCT.out.mono ?_; rintro e w2 ⟨rfl, n2, rfl⟩)
          | (go_at_call 43; with_reducible refine (HW1.out _ (HIN.out n2) (HSN.out n2)).mono ?_; rintro e w3 ⟨v3, rfl, hib3, hb3⟩; have HIB3 := Lib.hid hib3; have HB3 := Lib.hid ((HBN.out n2).trans hb3); have HS3 := Lib.hid (Nat.le_trans (HSN.out n2) hb3.size); clear hib3 hb3)
          | (go_at_call 40; refine (HCQ.out _).mono ?_; rintro e w5 ⟨rfl, rfl⟩)
          | (go_at_call 44; refine (HW3.out _ HIB3.out HS3.out).mono ?_; rintro e w4 ⟨rfl, hb4⟩; have hb5 := HB3.out.trans hb4; have hby := (hb5.block w.heap.size (Nat.lt_succ_self _)).trans HBX.out; have r0 := obj_cell hby 0; have q0 := obj_free hby 0; have r1 := obj_cell hby 1; have q1 := obj_free hby 1; have r2 := obj_cell hby 2; have q2 := obj_free hby 2; have r3 := obj_cell hby 3; have q3 := obj_free hby 3; have r4 := obj_cell hby 4; have q4 := obj_free hby 4; have HB4 := Lib.hid hb5; clear hb4 hb5 hby))
        rw [HTE.out]
        refine bodyPost_ret (v := oneV (⟨3, o ++ (t.drop i).take k, 0, false, 0⟩, z)) ?_ rfl ⟨rfl, box_below (HB0.out.trans (HB4.out.mono (Nat.le_succ _))) (Nat.le_refl _) _ _ _ _ _⟩
        simp only [results, HRS.out, oneV, tkV]
        go_simp
        try rfl
    · rw [if_neg hq] at hpv
      have HTE : Hid (txtR t = (tk0, 0)) := Lib.hid (by
        unfold txtR
        rw [txt_none HTA.out H0.out h39 (textR_none _ hq), if_neg (by decide)])
      rw [hpv, ← hrs] at HCT
      rw [← hrs]
      clear hq hpv hdl hul hrs
      go_wp2_with (go_at_call 42; refine HCT.out.mono ?_; rintro e w2 ⟨rfl, n2, rfl⟩)
      rw [HTE.out]
      refine bodyPost_ret (v := oneV (tk0, 0)) ?_ rfl ⟨rfl, box_below (HB0.out.trans ((HBN.out n2).mono (Nat.le_succ _))) (Nat.le_refl _) _ _ _ _ _⟩
      simp only [results, HRS.out, oneV, tkV, tk0]
      go_simp
      try rfl
end Go.Proofs.YtpnlbadmomaebaaDoor
