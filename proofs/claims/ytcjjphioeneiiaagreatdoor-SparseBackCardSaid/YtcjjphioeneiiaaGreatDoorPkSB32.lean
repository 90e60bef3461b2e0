/- Several texts in one: LwG. What each proves, and its conditions, stands at its own head. -/
import Derived.Test.YtcjjphioeneiiaaGreatDoorPkSB30
import Derived.Test.YtcjjphioeneiiaaGreatDoorPkSB9
import Derived.Test.YtcjjphioeneiiaaGreatDoorPkSB31
import Derived.Deep.LoopGhost
import Derived.Deep.AppendLies
/- The program's layer 10: all tokens of a text; what is asked of the layer. Conditions: LexEnv; those that each theorem names. -/
namespace Go.Proofs.YtcjjphioeneiiaaGreatDoor
open Go.RowKit
set_option linter.unusedVariables false
set_option maxRecDepth 100000

theorem hp_any (t : List UInt8) (w : World) : Calls Tryz.prog 51 #[.string (strOf t), .string ⟨#[47, 47]⟩] w fun e w' => e = .returned (.bool (slashB t)) ∧ w' = w := Any.strings_HasPrefix lhp_lays (strOf t) ⟨#[47, 47]⟩ w
theorem info_xtk : (Tryz.prog.info? 86).map (fun i => (i.zero, i.size, i.bytes)) = some (some (.agg #[.int .i64 0, .string ⟨#[]⟩, .int .u64 0, .bool false, .int .i64 0]), 5, 48) := by kernel_rfl

set_option maxHeartbeats 8000000 in
theorem xall_any (t : List UInt8) (most : Int) (w : World) (env : LexEnv w) (hl : t.length ≤ 10000) : Calls Tryz.prog 18 #[.string (strOf t), .int .i64 most] w (RAllTo w (lexT t most)) := by
 obtain ⟨i0, hi, hz0, hz1, hz2⟩ := info_parts info_xtk
 obtain ⟨n, hn⟩ : ∃ n, n = t.length := ⟨_, rfl⟩
 obtain ⟨str, hstr⟩ : ∃ str, str = strOf t := ⟨_, rfl⟩
 have hsz : str.size = n := by rw [hstr, str_size, hn]
 by_cases hmost : most < (t.length : Int)
 ·have HO : Hid (lexT t most = ([], 0, 3)) := Lib.hid (by unfold lexT; rw [if_pos hmost])
  rw [← hn] at hmost
  have g1 : decide ((n : Int) > most) = true := decide_eq_true hmost
  rw [HO.out, ← hstr]
  clear hn hstr HO env
  go_enter Tryz.func18, Tryz.ntmps18
  go_wp2
  go_step3
  go_wp2
  rw [Exit.noGoto_ret]
  go_ret3
  exact ⟨none, 0, rfl, toks_nil _ _ _ (by omega), Below.refl _ _⟩
 ·have HO : Hid (lexT t most = if (lexS t).2.2 = true then ((lexS t).1 ++ [⟨0, [], 0, false, t.length⟩], t.length, 0) else ([], (lexS t).2.1, 2)) := Lib.hid (by unfold lexT; rw [if_neg hmost])
  rw [← hn] at hmost
  have g1 : decide ((n : Int) > most) = false := decide_eq_false hmost
  have HX : Hid (∀ k, str.extract k n = strOf (t.drop k)) := Lib.hid (fun k => by rw [hstr, strOf_extract, List.take_of_length_le (by omega)])
  have HENV := Lib.hid env
  have HL1 : Hid (t.length ≤ 10000) := Lib.hid hl
  have HS0 := Lib.hid (lexAt_start t)
  rw [← hstr]
  have HN := Lib.hid hn
  rw [← hn] at hl
  clear hn hstr env
  go_enter Tryz.func18, Tryz.ntmps18
  go_wp2
  go_step3
  go_wp2
  go_step3
  go_wp2
  go_loopw [7, 8] (fun v x wr => ∃ (k m : Nat) (vo : Value) (acc : List Tk), x = .int .i64 (k : Int) ∧ vo = v ∧ k ≤ n ∧ LexAt t acc (passTo t k) ∧ wr.ownsRow w.heap.size 86 5 vo m (tkRow acc) ∧ Below w.heap.size w wr) (fun _ x _ => n - (intOf x).toNat)
  case atStart => exact ⟨0, 0, _, [], rfl, rfl, Nat.zero_le _, HS0.out, World.ownsRow_nil _ _ _ _, Below.refl _ _⟩
  case round =>
   obtain ⟨k, m, vo, acc, rfl, rfl, hkn, hat, hown, hbel⟩ := hrel
   have hac : acc.length ≤ n := by have h1 := hat.cnt; have h2 := hat.le; have := HN.out; omega
   have hm : m = acc.length := (toks_own hown).1
   have HAT := Lib.hid hat
   have HOW := Lib.hid hown
   have HB := Lib.hid hbel
   have HEW := Lib.hid (HENV.out.carry hbel)
   clear hat hown hbel
   have hk0 : 0 ≤ (k : Int) := by omega
   have hk1 : (k : Int) ≤ (n : Int) := by omega
   obtain ⟨sd, hsd⟩ : ∃ sd, sd = strOf (t.drop k) := ⟨_, rfl⟩
   have hx : str.extract k n = sd := by rw [HX.out, hsd]
   have hsz2 : sd.size = n - k := by rw [hsd, str_size, List.length_drop, HN.out]
   by_cases hlt : k < n
   ·have hlt' : k < t.length := by have := HN.out; omega
    obtain ⟨c, hc⟩ : ∃ c, t[k]? = some c := ⟨_, List.getElem?_eq_getElem hlt'⟩
    have hd0 : (t.drop k)[0]? = some c := by rw [List.getElem?_drop, Nat.add_zero]; exact hc
    have hs0 : 0 < sd.size := by omega
    have EC : sd[0]'hs0 = c := by
     obtain ⟨q1, q2⟩ := List.getElem?_eq_some_iff.mp hd0
     have := hsd
     subst this
     exact q2
    have hes1 : (sd.toList == []) = false := by
     have h := strOf_beq (t.drop k) []
     rw [← hsd, show (strOf []).toList = [] by rw [Lib.toList_data]; rfl, decide_eq_false (fun e => by rw [e] at hd0; simp at hd0)] at h
     exact h
    have hes3 : ¬ sd.toList = [] := fun e => by rw [e] at hes1; simp at hes1
    have hes2 : sd.toList.isEmpty = false := by rw [List.isEmpty_eq_false_iff]; exact hes3
    have HBL := Lib.hid (fun u => xblank_any c u)
    have HHP := Lib.hid (fun u => hp_any (t.drop k) u)
    have HLI := Lib.hid (fun u => xline_any (t.drop k) u (by rw [List.length_drop]; have := HL1.out; omega))
    have HFI := Lib.hid (fun u e => xfirst_any (t.drop k) c u e (by rw [List.length_drop]; have := HL1.out; omega) hd0)
    rw [← hsd] at HHP HLI HFI
    clear hsd hd0
    cases hbl : blankB c with
    | true =>
      have HA2 : Hid (LexAt t acc (passTo t (k + 1))) := Lib.hid (by rw [← pt_blank hc hbl]; exact HAT.out)
      rw [hbl] at HBL
      clear hbl hc
      go_wp2_with (go_at_call 50; (try rw [EC]); refine (HBL.out _).mono ?_; rintro e w2 ⟨rfl, rfl⟩)
      go_roundw
      case rel => exact ⟨k + 1, m, _, acc, by go_num, rfl, by omega, HA2.out, HOW.out, HB.out⟩
      case measure => simp [intOf]; omega
    | false =>
      rw [hbl] at HBL
      cases hsl : slashB (t.drop k) with
      | true =>
        rw [hsl] at HHP
        have hup := upto_pos hc hsl
        have hul := upto_le 10 (t.drop k)
        rw [List.length_drop, HN.out.symm] at hul
        have HA2 : Hid (LexAt t acc (passTo t (k + upto 10 (t.drop k)))) := Lib.hid (by rw [← pt_slash hc hsl]; exact HAT.out)
        obtain ⟨u, hu⟩ : ∃ u, u = upto 10 (t.drop k) := ⟨_, rfl⟩
        rw [← hu] at hup hul HA2 HLI
        clear hbl hsl hc hu
        go_wp2_with (first
         | (go_at_call 50; (try rw [EC]); refine (HBL.out _).mono ?_; rintro e w2 ⟨rfl, rfl⟩)
         | (go_at_call 51; refine (HHP.out _).mono ?_; rintro e w2 ⟨rfl, rfl⟩)
         | (go_at_call 52; refine (HLI.out _).mono ?_; rintro e w2 ⟨rfl, rfl⟩))
        go_roundw
        case rel => exact ⟨k + u, m, _, acc, by go_num, rfl, by omega, HA2.out, HOW.out, HB.out⟩
        case measure => simp [intOf]; omega
      | false =>
        rw [hsl] at HHP
        have HAK : Hid (LexAt t acc k) := Lib.hid (by have h := HAT.out; rw [pt_not hc hbl hsl] at h; exact h)
        clear hbl hsl hc
        have hle := oneT_le (t.drop k)
        rw [List.length_drop] at hle
        obtain ⟨r, hr⟩ : ∃ r, r = oneT (t.drop k) := ⟨_, rfl⟩
        rw [← hr] at hle HFI
        have HR := Lib.hid hr
        obtain ⟨⟨kd, ss, nn, ng, ps⟩, q⟩ := r
        unfold oneV tkV at HFI
        dsimp only at hle HFI
        have hkq : k + q ≤ n := by have := HN.out; omega
        clear hle hr
        by_cases hq0 : q = 0
        ·subst hq0
         have HF : Hid (lexT t most = ([], k, 2)) := Lib.hid (by rw [HO.out, lex_fails HAK.out hlt' (by rw [← HR.out])]; rfl)
         go_wp2_with (first
          | (go_at_call 50; (try rw [EC]); refine (HBL.out _).mono ?_; rintro e w2 ⟨rfl, rfl⟩)
          | (go_at_call 51; refine (HHP.out _).mono ?_; rintro e w2 ⟨rfl, rfl⟩)
          | (go_at_call 53; refine (HFI.out _ HEW.out).mono ?_; rintro e w2 ⟨rfl, hb2⟩))
         rw [Exit.noGoto_ret]
         go_ret3
         rw [HF.out]
         exact ⟨none, 0, rfl, toks_nil _ _ _ (by omega), (HB.out.trans (hb2.mono HB.out.size)).alloc (HB.out.trans (hb2.mono HB.out.size)).size _⟩
        ·have hq1 : ((q : Int) == 0) = false := beq_false_of_ne (by omega)
         have hq2 : ¬ (q : Int) = 0 := by omega
         have HG := Lib.hid (lex_goes HAK.out hlt' (by rw [← HR.out]; exact hq0))
         rw [← HR.out] at HG
         clear hlt'
         have HNEWS : Hid (∀ w2 : World, ∀ o, ∀ j u, (tkCells ⟨kd, ss, nn, ng, k⟩)[j]? = some u → ((w2.alloc o).alloc (.cells #[.int .i64 kd, .string (strOf ss), .int .u64 (nn : Int), .bool ng, .int .i64 (k : Int)] 86)).cell? ((⟨w2.heap.size + 1, 0, none⟩ : Addr).add j) = some u) := Lib.hid (fun w2 o j u hu => by
          have := news_tk (w2.alloc o) (tkCells ⟨kd, ss, nn, ng, k⟩) 86 j u hu
          rw [World.size_alloc] at this
          exact this)
         go_wp2_with (first
          | (go_at_call 50; (try rw [EC]); refine (HBL.out _).mono ?_; rintro e w2 ⟨rfl, rfl⟩)
          | (go_at_call 51; refine (HHP.out _).mono ?_; rintro e w2 ⟨rfl, rfl⟩)
          | (go_at_call 53; refine (HFI.out _ HEW.out).mono ?_; rintro e w2 ⟨rfl, hb2⟩; have HB2 := Lib.hid (HB.out.trans (hb2.mono HB.out.size)); have HOW2 := Lib.hid (own_below HOW.out hb2); clear hb2)
          | (at_builtin
             have hb12 := ((Below.refl _ w2).alloc (Nat.le_refl _) (.cells #[.int .i64 kd, .string (strOf ss), .int .u64 (nn : Int), .bool ng, .int .i64 (k : Int)] 86)).alloc (by simp) (.cells #[.int .i64 kd, .string (strOf ss), .int .u64 (nn : Int), .bool ng, .int .i64 (k : Int)] 86)
             refine wpList_append2 rfl _ _ 49 rfl w.heap.size 86 i0 _ 5 48 Tryz.underlying49 hi hz0 hz1 hz2 rfl (by decide) vo m (tkRow acc) rfl (own_below HOW2.out hb12) ⟨w2.heap.size + 1, 0, none⟩ 1 1 (tkCells ⟨kd, ss, nn, ng, k⟩) rfl rfl (HNEWS.out w2 _) (tkCells_one _) (by unfold maxLen; omega) (by omega) (by have := HB2.out.size; simp; omega) ?_
             intro v3 w3 h3 g3 m3
             have H3 := Lib.hid h3
             have HB3 := Lib.hid ((HB2.out.trans (hb12.mono HB2.out.size)).grown g3 (by have := HB2.out.size; simp; omega) (fun j hj => (HOW2.out.lt j hj).1))
             clear h3 g3 m3 hb12))
         go_roundw
         case rel => exact ⟨k + q, _, _, acc ++ [⟨kd, ss, nn, ng, k⟩], by go_num, rfl, hkq, HG.out, by rw [tkRow_snoc]; exact H3.out, HB3.out⟩
         case measure => simp [intOf]; omega
   ·have hke : k = n := by omega
    subst hke
    have hes1 : (sd.toList == []) = true := by
     have h := strOf_beq (t.drop k) []
     rw [← hsd, show (strOf []).toList = [] by rw [Lib.toList_data]; rfl, decide_eq_true (List.drop_of_length_le (by have := HN.out; omega))] at h
     exact h
    have hes3 : sd.toList = [] := beq_iff_eq.1 hes1
    have hes2 : sd.toList.isEmpty = true := by rw [hes3]; rfl
    have HF : Hid (lexT t most = (acc ++ [⟨0, [], 0, false, k⟩], k, 0)) := Lib.hid (by
     have h := HAT.out
     rw [pt_end (by have := HN.out; omega)] at h
     rw [HO.out, lex_ends h (by have := HN.out; omega), HN.out.symm]; rfl)
    have HNEWS : Hid (∀ w2 : World, ∀ j u, (tkCells ⟨0, [], 0, false, k⟩)[j]? = some u → (w2.alloc (.cells #[.int .i64 0, .string ⟨#[]⟩, .int .u64 0, .bool false, .int .i64 (k : Int)] 86)).cell? ((⟨w2.heap.size, 0, none⟩ : Addr).add j) = some u) := Lib.hid (fun w2 j u hu => news_tk w2 (tkCells ⟨0, [], 0, false, k⟩) 86 j u hu)
    clear hsd
    go_wp2_with (at_builtin
                 have hb12 := (Below.refl _ wr).alloc (Nat.le_refl _) (.cells #[.int .i64 0, .string ⟨#[]⟩, .int .u64 0, .bool false, .int .i64 (k : Int)] 86)
                 refine wpList_append2 rfl _ _ 49 rfl w.heap.size 86 i0 _ 5 48 Tryz.underlying49 hi hz0 hz1 hz2 rfl (by decide) vo m (tkRow acc) rfl (own_below HOW.out hb12) ⟨wr.heap.size, 0, none⟩ 1 1 (tkCells ⟨0, [], 0, false, k⟩) rfl rfl (HNEWS.out wr) (tkCells_one _) (by unfold maxLen; omega) (by omega) (by have := HB.out.size; simp; omega) ?_
                 intro v3 w3 h3 g3 m3
                 have H3 := Lib.hid h3
                 have HB3 := Lib.hid ((HB.out.trans (hb12.mono HB.out.size)).grown g3 (by have := HB.out.size; simp; omega) (fun j hj => (HOW.out.lt j hj).1))
                 clear h3 g3 m3 hb12)
    have hrow := H3.out
    rw [← tkRow_snoc] at hrow
    obtain ⟨_, A3, cap3, rfl, hT⟩ := toks_own hrow
    rw [Exit.noGoto_ret]
    go_ret3
    rw [HF.out]
    exact ⟨A3, cap3, rfl, hT, HB3.out⟩
end Go.Proofs.YtcjjphioeneiiaaGreatDoor
