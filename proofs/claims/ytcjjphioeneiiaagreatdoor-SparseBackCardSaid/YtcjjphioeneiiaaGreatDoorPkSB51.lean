/- Several texts in one: PnJ. What each proves, and its conditions, stands at its own head. -/
import Derived.Test.YtcjjphioeneiiaaGreatDoorPkSB46
import Derived.Test.YtcjjphioeneiiaaGreatDoorPkSB47
import Derived.Test.YtcjjphioeneiiaaGreatDoorPkSB32
import Derived.Test.YtcjjphioeneiiaaGreatDoorPkSB50
import Derived.Test.YtcjjphioeneiiaaGreatDoorPkSB42
/- The program's Parse, of texts of which fewer than 20 of each are read. Conditions: those that each theorem names. -/
namespace Go.Proofs.YtcjjphioeneiiaaGreatDoor
open Go.RowKit
set_option linter.unusedVariables false
set_option maxRecDepth 100000

theorem zero_two {w : World} {R : Nat} {a b : Value} (h : w.heap[R]? = some (.cells #[a, b] 26 (0, 0))) : w.cell? ⟨R, 0, none⟩ = some a ∧ w.cell? ⟨R, 1, none⟩ = some b ∧ w.frozen? ⟨R, 0, none⟩ = false ∧ w.frozen? ⟨R, 1, none⟩ = false := ⟨obj_cell h 0, obj_cell h 1, obj_free h 0, obj_free h 1⟩
set_option maxHeartbeats 16000000 in
theorem nparse_any (t : List UInt8) (w : World) (env : LexEnv w) (env2 : ScEnv w) (hl : t.length ≤ 6000) (hw : FewT t) : Calls Tryz.prog 7 #[.string (strOf t)] w (ParTo w (parseT t)) := by
 have HW0 := Lib.hid (up1 w (.cells sz0 26))
 have HLA := Lib.hid (xall_any t 6000 _ (env.carry HW0.out) (by omega))
 have HR0 : Hid ((w.alloc (.cells sz0 26)).heap[w.heap.size]? = some (.cells #[.slice none 0 0, .slice none 0 0] 26 (0, 0))) := Lib.hid (heap_alloc_new w _)
 obtain ⟨st, hst⟩ : ∃ st, st = strOf t := ⟨_, rfl⟩
 have hsz : st.size = t.length := by rw [hst, str_size]
 rw [← hst] at HLA ⊢
 obtain ⟨L, hL⟩ : ∃ L, L = (lexT t 6000).1 := ⟨_, rfl⟩
 obtain ⟨pl, hpl⟩ : ∃ pl, pl = (lexT t 6000).2.1 := ⟨_, rfl⟩
 obtain ⟨C, hC⟩ : ∃ C, C = (lexT t 6000).2.2 := ⟨_, rfl⟩
 unfold RAllTo at HLA
 rw [← hL, ← hpl, ← hC] at HLA
 by_cases hc : C = 0
 case neg =>
  have e1 : (C == 0) = false := beq_false_of_ne hc
  have e2 : (C != 0) = true := by rw [bne, e1]; rfl
  have HP : Hid (parseT t = (⟨[], []⟩, (pl : Int), C)) := Lib.hid (by unfold parseT; rw [if_pos (by rw [← hC]; exact hc), ← hpl, ← hC])
  rw [HP.out]
  clear env env2 hl hw hst hsz hL hpl hC hc
  go_enter Tryz.func7, Tryz.ntmps7
  go_wp2_with (first
   | (go_at_call 18; refine HLA.out.mono ?_; rintro e w1 ⟨A, cap, rfl, htk, hb⟩
      have hbx := (hb.block w.heap.size (by simp)).trans HR0.out
      obtain ⟨r0, r1, y0, y1⟩ := zero_two hbx
      have HBX := Lib.hid hbx
      have HB := Lib.hid (HW0.out.trans (hb.mono HW0.out.size))
      clear htk hb hbx))
  have o0 := obj_cell (two_set HBX.out (.slice none 0 0) (.slice none 0 0)) 0
  have o1 := obj_cell (two_set HBX.out (.slice none 0 0) (.slice none 0 0)) 1
  refine bodyPost_ret (v := .tuple #[.agg #[.slice none 0 0, .slice none 0 0], .int .i64 (pl : Int), .int .i64 C]) ?_ rfl (by exact par_none ((HB.out.setCell (p := ⟨w.heap.size, 0, none⟩) (Nat.le_refl _) _).setCell (p := ⟨w.heap.size, 1, none⟩) (Nat.le_refl _) _))
  have hres : Tryz.f7.results = #[.cell 2 26, .tmp 3, .tmp 4] := by kernel_rfl
  simp only [results, hres]
  go_simp
 case pos =>
  have e1 : (C == 0) = true := by rw [hc]; rfl
  have e2 : (C != 0) = false := by rw [hc]; rfl
  have hC0 : (lexT t 6000).2.2 = 0 := by rw [← hC]; exact hc
  obtain ⟨hE, hL0, hLL, -⟩ := lex_endok hC0
  have hg := lexT_good t 6000
  have hk := lexT_ok t 6000
  rw [← hL] at hE hL0 hLL hg hk
  obtain ⟨⟨⟨es, ms⟩, y⟩, hX⟩ : ∃ X, X = partsP L (L.length + 1) ⟨0, false⟩ := ⟨_, rfl⟩
  obtain ⟨hfit, hcnt⟩ := parts_fit hE hk (L.length + 1) ⟨0, false⟩ hL0
  rw [← hX] at hfit hcnt
  dsimp only at hfit hcnt
  have hfits := typed_fits hfit (by omega) (by omega) (by omega) (by omega)
  have HRD := Lib.hid (fun u A cap (hb : Below w.heap.size w u) (htk : Toks u A cap L) => nread_any (env2.rides hb) htk hL0 (by omega) hg hE)
  rw [← hX] at HRD
  unfold RdTo at HRD
  dsimp only at HRD
  cases hbad : y.at_bad with
  | true =>
    have HP : Hid (parseT t = (⟨[], []⟩, ((tokOf L y.at_i).pos : Int), 2)) := Lib.hid (parseT_bad hL hC0 hX.symm hbad)
    obtain ⟨kp, hkp⟩ : ∃ k, k = (tokOf L y.at_i).pos := ⟨_, rfl⟩
    rw [hbad, ← hkp] at HRD
    rw [← hkp] at HP
    rw [HP.out]
    clear env env2 hl hw hst hsz hL hpl hC hc hC0 hE hL0 hLL hg hk hfit hcnt hfits hbad hkp hX
    go_enter Tryz.func7, Tryz.ntmps7
    go_wp2_with (first
     | (go_at_call 18; refine HLA.out.mono ?_; rintro e w1 ⟨A, cap, rfl, htk, hb⟩
        have hbx := (hb.block w.heap.size (by simp)).trans HR0.out
        have HBX := Lib.hid hbx
        have HB := Lib.hid (HW0.out.trans (hb.mono HW0.out.size))
        have HTK := Lib.hid htk
        clear htk hb hbx)
     | (go_at_call 19; refine (HRD.out _ _ _ HB.out HTK.out).mono ?_; rintro e w2 ⟨hb, ⟨-, rfl⟩ | ⟨hf, -⟩⟩
        case inr => cases hf
        replace HBX := Lib.hid (((hb.block w.heap.size (lt_of_block HBX.out)).trans HBX.out : w2.heap[w.heap.size]? = some (.cells #[.slice none 0 0, .slice none 0 0] 26 (0, 0))))
        replace HB := Lib.hid (HB.out.trans (hb.mono HB.out.size))
        have hup := up1 w2 (.cells #[.slice none 0 0, .slice none 0 0] 26)
        replace HBX := Lib.hid ((hup.block w.heap.size (lt_of_block HBX.out)).trans HBX.out)
        replace HB := Lib.hid (HB.out.trans (hup.mono HB.out.size))
        obtain ⟨r0, r1, y0, y1⟩ := zero_two HBX.out
        clear hb hup))
    have o0 := obj_cell (two_set HBX.out (.slice none 0 0) (.slice none 0 0)) 0
    have o1 := obj_cell (two_set HBX.out (.slice none 0 0) (.slice none 0 0)) 1
    refine bodyPost_ret (v := .tuple #[.agg #[.slice none 0 0, .slice none 0 0], .int .i64 (kp : Int), .int .i64 2]) ?_ rfl (by exact par_none ((HB.out.setCell (p := ⟨w.heap.size, 0, none⟩) (Nat.le_refl _) _).setCell (p := ⟨w.heap.size, 1, none⟩) (Nat.le_refl _) _))
    have hres : Tryz.f7.results = #[.cell 2 26, .tmp 3, .tmp 4] := by kernel_rfl
    simp only [results, hres]
    go_simp
  | false =>
    have hfew := few_typed (hw es ms y (by rw [← hL]; exact hX.symm) hbad)
    obtain ⟨S0, hS0⟩ : ∃ S0, S0 = typedS ⟨es, ms⟩ := ⟨_, rfl⟩
    have HP : Hid (parseT t = if checkT (sortedS S0) ≠ 0 then (⟨[], []⟩, (t.length : Int), checkT (sortedS S0)) else (sortedS S0, (t.length : Int), 0)) := Lib.hid (by rw [hS0]; exact parseT_ok hL hC0 hX.symm hbad)
    rw [← hS0] at HRD hfits hfew
    obtain ⟨kp, hkp⟩ : ∃ k, k = (tokOf L y.at_i).pos := ⟨_, rfl⟩
    rw [hbad, ← hkp] at HRD
    obtain ⟨SS, hSS⟩ : ∃ SS, SS = sortedS S0 := ⟨_, rfl⟩
    rw [← hSS] at HP
    obtain ⟨CK, hCK⟩ : ∃ CK, CK = checkT SS := ⟨_, rfl⟩
    rw [← hCK] at HP
    have HSO := Lib.hid (fun u A n cap A2 n2 cap2 (h : ScAt (fun _ g => w.heap.size ≤ g) u A n cap A2 n2 cap2 S0) => stsorted_any u h hfits (by have := h.s_ne; have := hfew.w_e; omega) (by have := h.s_nm; have := hfew.w_m; omega) hfew.w_v hfew.w_f)
    rw [← hSS] at HSO
    have HCK := Lib.hid (fun u A n cap A2 n2 cap2 (hb : Below w.heap.size w u) (h : ScAt (fun _ g => w.heap.size ≤ g) u A n cap A2 n2 cap2 SS) => scheck_any u (env2.rides hb) h)
    rw [← hCK] at HCK
    clear env env2 hl hw hst hL hpl hC hc hC0 hE hL0 hLL hg hk hfit hcnt hfits hbad hkp hX hfew hS0 hSS hCK
    by_cases hck : CK = 0
    ·have e3 : (CK == 0) = true := by rw [hck]; rfl
     have e4 : (CK != 0) = false := by rw [hck]; rfl
     rw [if_neg (by rw [hck]; decide)] at HP
     rw [HP.out]
     clear hck
     go_enter Tryz.func7, Tryz.ntmps7
     go_wp2_with (first
      | (go_at_call 18; refine HLA.out.mono ?_; rintro e w1 ⟨A, cap, rfl, htk, hb⟩
         have hbx := (hb.block w.heap.size (by simp)).trans HR0.out
         have HBX := Lib.hid hbx
         have HB := Lib.hid (HW0.out.trans (hb.mono HW0.out.size))
         have HTK := Lib.hid htk
         clear htk hb hbx)
      | (go_at_call 19; refine (HRD.out _ _ _ HB.out HTK.out).mono ?_; rintro e w2 ⟨hb, ⟨hf, -⟩ | ⟨-, B, n, c, B2, n2, c2, rfl, hsc⟩⟩
         case inl => cases hf
         have hsz := HB.out.size
         replace HBX := Lib.hid (((hb.block w.heap.size (lt_of_block HBX.out)).trans HBX.out : w2.heap[w.heap.size]? = some (.cells #[.slice none 0 0, .slice none 0 0] 26 (0, 0))))
         replace HB := Lib.hid (HB.out.trans (hb.mono HB.out.size))
         have hlt := lt_of_block HBX.out
         have hup := up1 w2 (.cells #[.slice B n c, .slice B2 n2 c2] 26)
         replace HBX := Lib.hid ((hup.block w.heap.size (lt_of_block HBX.out)).trans HBX.out)
         replace HB := Lib.hid (HB.out.trans (hup.mono HB.out.size))
         have HT := Lib.hid (heap_alloc_new w2 (.cells #[.slice B n c, .slice B2 n2 c2] 26))
         have HLT := Lib.hid hlt
         have HSQ := Lib.hid (HSO.out _ _ _ _ _ _ _ (scAt_weak (scAt_bel hsc hup) hsz))
         obtain ⟨d0, d1, -, -⟩ := zero_two HT.out
         clear hb hup hlt hsz hsc)
      | (go_at_call 14; refine HSQ.out.mono ?_; rintro e w3 ⟨B1, k1, B3, k3, rfl, hsc, hb⟩
         have HT3 := Lib.hid ((hb.block w2.heap.size (by simp)).trans HT.out)
         have hb3 := HB.out.trans (hb.mono HB.out.size)
         have hx3 := (hb.block w.heap.size (lt_of_block HBX.out)).trans HBX.out
         have hle : w.heap.size ≤ w2.heap.size := Nat.le_of_lt HLT.out
         have HT5 := Lib.hid (two_set HT3.out (.slice B1 n k1) (.slice B3 n2 k3))
         have HBX5 := Lib.hid (set_else (set_else hx3 (p := ⟨w2.heap.size, 0, none⟩) (v := .slice B1 n k1) (by have := HLT.out; show w.heap.size ≠ w2.heap.size; omega)) (p := ⟨w2.heap.size, 1, none⟩) (v := .slice B3 n2 k3) (by have := HLT.out; show w.heap.size ≠ w2.heap.size; omega))
         have HB5 := Lib.hid ((hb3.setCell (p := ⟨w2.heap.size, 0, none⟩) hle (.slice B1 n k1)).setCell (p := ⟨w2.heap.size, 1, none⟩) hle (.slice B3 n2 k3))
         have HS5 := Lib.hid (scAt_else hsc (w' := (w3.setCell ⟨w2.heap.size, 0, none⟩ (.slice B1 n k1)).setCell ⟨w2.heap.size, 1, none⟩ (.slice B3 n2 k3)) (fun g hg _ => by
          have hg2 : w2.heap.size + 1 ≤ g := by simpa using hg
          exact (Below.heap_setCell _ _ _ _ (by show g ≠ w2.heap.size; omega)).trans (Below.heap_setCell _ _ _ _ (by show g ≠ w2.heap.size; omega))))
         obtain ⟨d0, d1, f0, f1⟩ := zero_two HT3.out
         obtain ⟨v0, v1, -, -⟩ := zero_two HT5.out
         clear hb hb3 hx3 hsc)
      | (go_at_call 20; refine (HCK.out _ _ _ _ _ _ _ HB5.out (scAt_weak HS5.out (by have := HLT.out; simp; omega))).mono ?_; rintro e w6 ⟨rfl, hb⟩
         have HT6 := Lib.hid ((hb.block w2.heap.size (lt_of_block HT5.out)).trans HT5.out)
         have HBX6 := Lib.hid ((hb.block w.heap.size (lt_of_block HBX5.out)).trans HBX5.out)
         have HB6 := Lib.hid (HB5.out.trans (hb.mono HB5.out.size))
         have HS6 := Lib.hid (scAt_bel HS5.out hb)
         clear d0 d1 f0 f1 v0 v1
         obtain ⟨d0, d1, -, -⟩ := zero_two HT6.out
         obtain ⟨r0, r1, y0, y1⟩ := zero_two HBX6.out
         clear hb))
     have o0 := obj_cell (two_set HBX6.out (.slice B1 n k1) (.slice B3 n2 k3)) 0
     have o1 := obj_cell (two_set HBX6.out (.slice B1 n k1) (.slice B3 n2 k3)) 1
     refine bodyPost_ret (v := .tuple #[.agg #[.slice B1 n k1, .slice B3 n2 k3], .int .i64 (st.size : Int), .int .i64 0]) ?_ rfl (by
      rw [hsz]
      exact ⟨B1, n, k1, B3, n2, k3, rfl, scAt_weak (scAt_else HS6.out (fun g hg _ => by
       have hg2 : w2.heap.size + 1 ≤ g := by simpa using hg
       have := HLT.out
       exact (Below.heap_setCell _ _ _ _ (by show g ≠ w.heap.size; omega)).trans (Below.heap_setCell _ _ _ _ (by show g ≠ w.heap.size; omega)))) (by have := HLT.out; simp; omega), (HB6.out.setCell (p := ⟨w.heap.size, 0, none⟩) (Nat.le_refl _) _).setCell (p := ⟨w.heap.size, 1, none⟩) (Nat.le_refl _) _⟩)
     have hres : Tryz.f7.results = #[.cell 2 26, .tmp 3, .tmp 4] := by kernel_rfl
     simp only [results, hres]
     go_simp
    ·have e3 : (CK == 0) = false := beq_false_of_ne hck
     have e4 : (CK != 0) = true := by rw [bne, e3]; rfl
     rw [if_pos hck] at HP
     rw [HP.out]
     clear hck
     go_enter Tryz.func7, Tryz.ntmps7
     go_wp2_with (first
      | (go_at_call 18; refine HLA.out.mono ?_; rintro e w1 ⟨A, cap, rfl, htk, hb⟩
         have hbx := (hb.block w.heap.size (by simp)).trans HR0.out
         have HBX := Lib.hid hbx
         have HB := Lib.hid (HW0.out.trans (hb.mono HW0.out.size))
         have HTK := Lib.hid htk
         clear htk hb hbx)
      | (go_at_call 19; refine (HRD.out _ _ _ HB.out HTK.out).mono ?_; rintro e w2 ⟨hb, ⟨hf, -⟩ | ⟨-, B, n, c, B2, n2, c2, rfl, hsc⟩⟩
         case inl => cases hf
         have hsz := HB.out.size
         replace HBX := Lib.hid (((hb.block w.heap.size (lt_of_block HBX.out)).trans HBX.out : w2.heap[w.heap.size]? = some (.cells #[.slice none 0 0, .slice none 0 0] 26 (0, 0))))
         replace HB := Lib.hid (HB.out.trans (hb.mono HB.out.size))
         have hlt := lt_of_block HBX.out
         have hup := up1 w2 (.cells #[.slice B n c, .slice B2 n2 c2] 26)
         replace HBX := Lib.hid ((hup.block w.heap.size (lt_of_block HBX.out)).trans HBX.out)
         replace HB := Lib.hid (HB.out.trans (hup.mono HB.out.size))
         have HT := Lib.hid (heap_alloc_new w2 (.cells #[.slice B n c, .slice B2 n2 c2] 26))
         have HLT := Lib.hid hlt
         have HSQ := Lib.hid (HSO.out _ _ _ _ _ _ _ (scAt_weak (scAt_bel hsc hup) hsz))
         obtain ⟨d0, d1, -, -⟩ := zero_two HT.out
         clear hb hup hlt hsz hsc)
      | (go_at_call 14; refine HSQ.out.mono ?_; rintro e w3 ⟨B1, k1, B3, k3, rfl, hsc, hb⟩
         have HT3 := Lib.hid ((hb.block w2.heap.size (by simp)).trans HT.out)
         have hb3 := HB.out.trans (hb.mono HB.out.size)
         have hx3 := (hb.block w.heap.size (lt_of_block HBX.out)).trans HBX.out
         have hle : w.heap.size ≤ w2.heap.size := Nat.le_of_lt HLT.out
         have HT5 := Lib.hid (two_set HT3.out (.slice B1 n k1) (.slice B3 n2 k3))
         have HBX5 := Lib.hid (set_else (set_else hx3 (p := ⟨w2.heap.size, 0, none⟩) (v := .slice B1 n k1) (by have := HLT.out; show w.heap.size ≠ w2.heap.size; omega)) (p := ⟨w2.heap.size, 1, none⟩) (v := .slice B3 n2 k3) (by have := HLT.out; show w.heap.size ≠ w2.heap.size; omega))
         have HB5 := Lib.hid ((hb3.setCell (p := ⟨w2.heap.size, 0, none⟩) hle (.slice B1 n k1)).setCell (p := ⟨w2.heap.size, 1, none⟩) hle (.slice B3 n2 k3))
         have HS5 := Lib.hid (scAt_else hsc (w' := (w3.setCell ⟨w2.heap.size, 0, none⟩ (.slice B1 n k1)).setCell ⟨w2.heap.size, 1, none⟩ (.slice B3 n2 k3)) (fun g hg _ => by
          have hg2 : w2.heap.size + 1 ≤ g := by simpa using hg
          exact (Below.heap_setCell _ _ _ _ (by show g ≠ w2.heap.size; omega)).trans (Below.heap_setCell _ _ _ _ (by show g ≠ w2.heap.size; omega))))
         obtain ⟨d0, d1, f0, f1⟩ := zero_two HT3.out
         obtain ⟨v0, v1, -, -⟩ := zero_two HT5.out
         clear hb hb3 hx3 hsc)
      | (go_at_call 20; refine (HCK.out _ _ _ _ _ _ _ HB5.out (scAt_weak HS5.out (by have := HLT.out; simp; omega))).mono ?_; rintro e w6 ⟨rfl, hb⟩
         have HT6 := Lib.hid ((hb.block w2.heap.size (lt_of_block HT5.out)).trans HT5.out)
         have HBX6 := Lib.hid ((hb.block w.heap.size (lt_of_block HBX5.out)).trans HBX5.out)
         have HB6 := Lib.hid (HB5.out.trans (hb.mono HB5.out.size))
         have HS6 := Lib.hid (scAt_bel HS5.out hb)
         clear d0 d1 f0 f1 v0 v1
         obtain ⟨d0, d1, -, -⟩ := zero_two HT6.out
         obtain ⟨r0, r1, y0, y1⟩ := zero_two HBX6.out
         clear hb))
     have o0 := obj_cell (two_set HBX6.out (.slice none 0 0) (.slice none 0 0)) 0
     have o1 := obj_cell (two_set HBX6.out (.slice none 0 0) (.slice none 0 0)) 1
     refine bodyPost_ret (v := .tuple #[.agg #[.slice none 0 0, .slice none 0 0], .int .i64 (st.size : Int), .int .i64 CK]) ?_ rfl (by rw [hsz]; exact par_none ((HB6.out.setCell (p := ⟨w.heap.size, 0, none⟩) (Nat.le_refl _) _).setCell (p := ⟨w.heap.size, 1, none⟩) (Nat.le_refl _) _))
     have hres : Tryz.f7.results = #[.cell 2 26, .tmp 3, .tmp 4] := by kernel_rfl
     simp only [results, hres]
     go_simp

theorem few_one : FewT lvT1 := fun es ms y h _ => by
 have e : partsP (lexT lvT1 6000).1 ((lexT lvT1 6000).1.length + 1) ⟨0, false⟩ = (([], [⟨[77], [⟨[97], 1, 0, wordT 1, false, false, []⟩], []⟩]), ⟨9, false⟩) := by kernel_rfl
 rw [e] at h
 injection h with h1 h2
 injection h1 with h3 h4
 subst h3 h4
 exact ⟨by decide, by decide, by simp, by simp⟩
theorem few_two : FewT lvT2 := fun es ms y h hb => by
 have e : (partsP (lexT lvT2 6000).1 ((lexT lvT2 6000).1.length + 1) ⟨0, false⟩).2.at_bad = true := by kernel_rfl
 rw [h] at e
 have e2 : y.at_bad = true := e
 rw [hb] at e2
 cases e2
theorem few_text {s : Sc} (h : checkT s = 0) (hi : ScOk s) : FewT (schText s) := fun es ms y hp _ => by
 obtain ⟨i1, i2⟩ := ins_in h
 have ht := text_short h
 obtain ⟨l, hl, hb⟩ := reads_all (reads_sch h hi)
 have hx : lexT (schText s) 6000 = (l ++ [endTk (schText s).length], (schText s).length, 0) := by
  unfold lexT
  rw [if_neg (by omega), hl, if_pos rfl]
  rfl
 have hst : Stands (l ++ [endTk (schText s).length]) 0 (s.enums.flatMap toksE ++ (s.msgs.flatMap toksM ++ [endTk (schText s).length])) := ⟨[], by
  rw [List.drop_zero, List.append_nil, List.map_append, hb, ← List.map_append]
  unfold toksS
  rw [List.append_assoc]⟩
 have hlen := stands_len hst
 have hmany := toks_parts s.enums s.msgs
 rw [hx] at hp
 dsimp only at hp
 rw [parts_back (k := (schText s).length) s.enums s.msgs ((l ++ [endTk (schText s).length]).length + 1) 0 (by
  rw [List.length_append, List.length_append] at hlen
  simp only [List.length_cons, List.length_nil] at hlen
  omega) i1 i2 hst] at hp
 injection hp with h1 h2
 injection h1 with h3 h4
 subst h3 h4
 have hf := few_of (check_parts h).1
 refine ⟨by have := hf.few_e; show s.enums.length < 20; omega, by have := hf.few_m; show (s.msgs.map rawM).length < 20; rw [List.length_map]; omega, fun e he => by have := hf.few_v e he; omega, fun m hm => ?_⟩
 obtain ⟨y2, hy, rfl⟩ := List.mem_map.mp hm
 have := (hf.few_f y2 hy).1
 show (y2.fields.map rawF).length < 20
 rw [List.length_map]
 omega
theorem sparse_few : SparseOk FewT (fun w => LexEnv w ∧ ScEnv w) where
 sqrides := fun w w' h hb => ⟨h.1.carry hb, h.2.rides hb⟩
 sqparse := fun t w env hl hq => (nparse_any t w env.1 env.2 hl hq).mono (by
  rintro e w' ⟨B, n, c, B2, n2, c2, rfl, hs, hb⟩
  obtain rfl := hs.s_ne
  obtain rfl := hs.s_nm
  exact ⟨B, c, B2, c2, rfl, ⟨lst_keep hs.s_e (enR_keep (fun _ _ _ => trivial) (fun _ _ _ _ => rfl)) (fun _ _ => trivial) (fun _ _ _ => rfl), lst_keep hs.s_m (msR_keep (fun _ _ _ => trivial) (fun _ _ _ _ => rfl)) (fun _ _ => trivial) (fun _ _ _ => rfl), hs.s_ne, hs.s_nm⟩, hb⟩)
 sqlv1 := few_one
 sqlv2 := few_two
 sqtext := fun s h hi => few_text h hi
end Go.Proofs.YtcjjphioeneiiaaGreatDoor
