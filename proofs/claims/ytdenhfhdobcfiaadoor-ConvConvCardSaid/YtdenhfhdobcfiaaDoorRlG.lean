/- The document's tokens of a text. Conditions: what number answers; those that each theorem names. -/
import Derived.Test.YtdenhfhdobcfiaaDoorLexAll
import Derived.Test.YtdenhfhdobcfiaaDoorRlB
import Derived.Test.YtdenhfhdobcfiaaDoorApp2
import Derived.Deep.AppendLies
namespace Go.Proofs.YtdenhfhdobcfiaaDoor
open Go.RowKit
set_option linter.unusedVariables false
set_option maxRecDepth 100000

theorem info_tk : (Tryd.prog.info? 36).map (fun i => (i.zero, i.size, i.bytes)) = some (some (.agg #[.int .i64 0, .string ⟨#[]⟩, .int .u64 0, .bool false, .int .i64 0]), 5, 48) := by kernel_rfl
/-- What All answers. -/
def RAllTo (w : World) (R : List Tk × Nat × Int) (e : Ending) (w' : World) : Prop :=
  ∃ A cap, e = .returned (.tuple #[.slice A R.1.length cap, .int .i64 (R.2.1 : Int), .int .i64 R.2.2]) ∧ Toks w' A cap R.1 ∧ Below w.heap.size w w'
theorem news_tk (w : World) (cs : List Value) (t : TypeId) : ∀ j u, cs[j]? = some u → (w.alloc (.cells cs.toArray t)).cell? ((⟨w.heap.size, 0, none⟩ : Addr).add j) = some u := fun j u hu => World.news_of_block (heap_alloc_new w _) j u hu

set_option maxHeartbeats 4000000 in
theorem rlall_any (HNS : NumSays) (t : List UInt8) (most : Int) (w : World) (hl : t.length ≤ 1000000) : Calls Tryd.prog 16 #[.string (strOf t), .int .i64 most] w (RAllTo w (lexT t most)) := by
  obtain ⟨i0, hi, hz0, hz1, hz2⟩ := info_parts info_tk
  obtain ⟨n, hn⟩ : ∃ n, n = t.length := ⟨_, rfl⟩
  obtain ⟨str, hstr⟩ : ∃ str, str = strOf t := ⟨_, rfl⟩
  have hsz : str.size = n := by rw [hstr, str_size, hn]
  by_cases hmost : most < (t.length : Int)
  · have HO : Hid (lexT t most = ([], 0, 3)) := Lib.hid (by unfold lexT; rw [if_pos hmost])
    rw [← hn] at hmost
    have g1 : decide ((n : Int) > most) = true := decide_eq_true hmost
    rw [HO.out, ← hstr]
    clear hn hstr HO
    go_enter Tryd.func16, Tryd.ntmps16
    go_wp2
    go_ret3
    exact ⟨none, 0, rfl, toks_nil _ _ _ (by omega), Below.refl _ _⟩
  · have HO : Hid (lexT t most = if (lexS t).2.2 = true then ((lexS t).1 ++ [⟨0, [], 0, false, t.length⟩], t.length, 0) else ([], (lexS t).2.1, 2)) := Lib.hid (by unfold lexT; rw [if_neg hmost])
    rw [← hn] at hmost
    have g1 : decide ((n : Int) > most) = false := decide_eq_false hmost
    have HP0 := Lib.hid (fun w => rlpass_any t 0 w (Nat.zero_le _) hl)
    have HP := Lib.hid (fun (i : Nat) w (h : i ≤ n) => rlpass_any t i w (by omega) hl)
    have HX : Hid (∀ k, str.extract k n = strOf (t.drop k)) := Lib.hid (fun k => by rw [hstr, strOf_extract, List.take_of_length_le (by omega)])
    have HONE := Lib.hid (fun k w => rlone_any HNS (t.drop k) w (by rw [List.length_drop]; omega))
    have hown0 : (w.alloc (.cells #[] 36)).ownsRow w.heap.size 36 5 (.slice (some ⟨w.heap.size, 0, none⟩) 0 0) 0 (tkRow []) := ⟨rfl, .inr ⟨w.heap.size, 0, _, rfl, Nat.le_refl _, heap_alloc_new w _, Nat.le_refl _, by decide, rfl, rfl⟩⟩
    have HOW0 := Lib.hid hown0
    have HS0 := Lib.hid (lexAt_start t)
    rw [show passTo t 0 = passM false t by unfold passTo; rw [List.drop_zero, Nat.zero_add]] at HS0
    rw [← hstr] at HP0 HP ⊢
    have HN := Lib.hid hn
    rw [← hn] at hl
    clear hn hstr hown0
    go_enter Tryd.func16, Tryd.ntmps16
    go_wp2_with (go_at_call 25; refine (HP0.out _).mono ?_; rintro e w2 ⟨rfl, rfl⟩)
    go_loopw [7, 8] (fun v x wr => ∃ (k m : Nat) (vo : Value) (acc : List Tk), x = .int .i64 (k : Int) ∧ vo = v ∧ LexAt t acc k ∧ wr.ownsRow w.heap.size 36 5 vo m (tkRow acc) ∧ Below w.heap.size w wr) (fun _ x _ => n - (intOf x).toNat)
    case atStart => exact ⟨_, 0, _, [], rfl, rfl, HS0.out, HOW0.out, (Below.refl _ _).alloc (Nat.le_refl _) _⟩
    case round =>
      obtain ⟨k, m, vo, acc, rfl, rfl, hat, hown, hbel⟩ := hrel
      have hkn : k ≤ n := by have := hat.le; have := HN.out; omega
      have hac : acc.length ≤ n := by have := hat.cnt; omega
      have hm : m = acc.length := (toks_own hown).1
      have HAT := Lib.hid hat
      have HOW := Lib.hid hown
      have HB := Lib.hid hbel
      clear hat hown hbel
      by_cases hlt : k < n
      · have g3 : decide ((k : Int) < (n : Int)) = true := decide_eq_true (by omega)
        have hk0 : 0 ≤ (k : Int) := by omega
        have hk1 : (k : Int) ≤ (n : Int) := by omega
        have hlt' : k < t.length := by have := HN.out; omega
        obtain ⟨sd, hsd⟩ : ∃ sd, sd = strOf (t.drop k) := ⟨_, rfl⟩
        have hx : str.extract k n = sd := by rw [HX.out, hsd]
        have HC := Lib.hid (fun w => HONE.out k w)
        rw [← hsd] at HC
        have hle := oneT_le (t.drop k)
        rw [List.length_drop] at hle
        obtain ⟨r, hr⟩ : ∃ r, r = oneT (t.drop k) := ⟨_, rfl⟩
        rw [← hr] at hle HC
        have HR := Lib.hid hr
        obtain ⟨⟨kd, ss, nn, ng, ps⟩, q⟩ := r
        unfold oneV tkV at HC
        dsimp only at hle HC
        have hkq : k + q ≤ n := by have := HN.out; omega
        have hkq2 : (k : Int) + (q : Int) ≤ (n : Int) := by omega
        clear hle
        clear hsd hr
        by_cases hq0 : q = 0
        · subst hq0
          have HF : Hid (lexT t most = ([], k, 2)) := Lib.hid (by rw [HO.out, lex_fails HAT.out hlt' (by rw [← HR.out])]; rfl)
          go_wp2_with (go_at_call 26; refine (HC.out _).mono ?_; rintro e w2 ⟨rfl, hb2⟩)
          go_ret3
          rw [HF.out]
          exact ⟨none, 0, rfl, toks_nil _ _ _ (by omega), (HB.out.trans (hb2.mono HB.out.size)).alloc (HB.out.trans (hb2.mono HB.out.size)).size _⟩
        · have hq1 : ((q : Int) == 0) = false := beq_false_of_ne (by omega)
          have hq2 : ¬ (q : Int) = 0 := by omega
          have HG := Lib.hid (lex_goes HAT.out hlt' (by rw [← HR.out]; exact hq0))
          rw [← HR.out] at HG
          have HPK := Lib.hid (fun w => HP.out (k + q) w (by have := HN.out; omega))
          have hpc : ((k + q : Nat) : Int) = (k : Int) + (q : Int) := Int.natCast_add k q
          rw [hpc] at HPK
          clear hpc hlt'
          have HNEWS : Hid (∀ w2 : World, ∀ o, ∀ j u, (tkCells ⟨kd, ss, nn, ng, k⟩)[j]? = some u → ((w2.alloc o).alloc (.cells #[.int .i64 kd, .string (strOf ss), .int .u64 (nn : Int), .bool ng, .int .i64 (k : Int)] 36)).cell? ((⟨w2.heap.size + 1, 0, none⟩ : Addr).add j) = some u) := Lib.hid (fun w2 o j u hu => by
            have := news_tk (w2.alloc o) (tkCells ⟨kd, ss, nn, ng, k⟩) 36 j u hu
            rw [World.size_alloc] at this
            exact this)
          go_wp2_with (first
            | (go_at_call 26; refine (HC.out _).mono ?_; rintro e w2 ⟨rfl, hb2⟩; have HB2 := Lib.hid (HB.out.trans (hb2.mono HB.out.size)); have HOW2 := Lib.hid (own_below HOW.out hb2); clear hb2)
            | (at_builtin
               have hb12 := ((Below.refl _ w2).alloc (Nat.le_refl _) (.cells #[.int .i64 kd, .string (strOf ss), .int .u64 (nn : Int), .bool ng, .int .i64 (k : Int)] 36)).alloc (by simp) (.cells #[.int .i64 kd, .string (strOf ss), .int .u64 (nn : Int), .bool ng, .int .i64 (k : Int)] 36)
               refine wpList_append2 rfl _ _ 32 rfl w.heap.size 36 i0 _ 5 48 Tryd.underlying32 hi hz0 hz1 hz2 rfl (by decide) vo m (tkRow acc) rfl (own_below HOW2.out hb12) ⟨w2.heap.size + 1, 0, none⟩ 1 1 (tkCells ⟨kd, ss, nn, ng, k⟩) rfl rfl (HNEWS.out w2 _) (tkCells_one _) (by unfold maxLen; omega) (by omega) (by have := HB2.out.size; simp; omega) ?_
               intro v3 w3 h3 g3 m3
               have H3 := Lib.hid h3
               have HB3 := Lib.hid ((HB2.out.trans (hb12.mono HB2.out.size)).grown g3 (by have := HB2.out.size; simp; omega) (fun j hj => (HOW2.out.lt j hj).1))
               clear h3 g3 m3 hb12)
            | (go_at_call 25; with_reducible refine (HPK.out _).mono ?_; rintro e w4 ⟨rfl, rfl⟩))
          go_roundw
          case rel => exact ⟨_, _, _, acc ++ [⟨kd, ss, nn, ng, k⟩], rfl, rfl, HG.out, by rw [tkRow_snoc]; exact H3.out, HB3.out⟩
          case measure =>
            have h1 := HG.out.cnt
            have h2 := HG.out.le
            have h3 := passTo_ge t (k + q)
            simp [intOf]
            unfold passTo at h3
            have := HN.out
            omega
      · have g3 : decide ((k : Int) < (n : Int)) = false := decide_eq_false (by omega)
        have hnk : ¬ k < t.length := by have := HN.out; omega
        have hke : k = t.length := by have := HAT.out.le; omega
        have HF : Hid (lexT t most = (acc ++ [⟨0, [], 0, false, n⟩], n, 0)) := Lib.hid (by rw [HO.out, lex_ends HAT.out hnk, HN.out]; rfl)
        have HNEWS : Hid (∀ w2 : World, ∀ j u, (tkCells ⟨0, [], 0, false, n⟩)[j]? = some u → (w2.alloc (.cells #[.int .i64 0, .string ⟨#[]⟩, .int .u64 0, .bool false, .int .i64 (n : Int)] 36)).cell? ((⟨w2.heap.size, 0, none⟩ : Addr).add j) = some u) := Lib.hid (fun w2 j u hu => news_tk w2 (tkCells ⟨0, [], 0, false, n⟩) 36 j u hu)
        clear hke hnk
        go_wp2_with (at_builtin
                     have hb12 := (Below.refl _ wr).alloc (Nat.le_refl _) (.cells #[.int .i64 0, .string ⟨#[]⟩, .int .u64 0, .bool false, .int .i64 (n : Int)] 36)
                     refine wpList_append2 rfl _ _ 32 rfl w.heap.size 36 i0 _ 5 48 Tryd.underlying32 hi hz0 hz1 hz2 rfl (by decide) vo m (tkRow acc) rfl (own_below HOW.out hb12) ⟨wr.heap.size, 0, none⟩ 1 1 (tkCells ⟨0, [], 0, false, n⟩) rfl rfl (HNEWS.out wr) (tkCells_one _) (by unfold maxLen; omega) (by omega) (by have := HB.out.size; simp; omega) ?_
                     intro v3 w3 h3 g3 m3
                     have H3 := Lib.hid h3
                     have HB3 := Lib.hid ((HB.out.trans (hb12.mono HB.out.size)).grown g3 (by have := HB.out.size; simp; omega) (fun j hj => (HOW.out.lt j hj).1))
                     clear h3 g3 m3 hb12)
        have hrow := H3.out
        rw [← tkRow_snoc] at hrow
        obtain ⟨_, A3, cap3, rfl, hT⟩ := toks_own hrow
        go_ret3
        rw [HF.out]
        exact ⟨A3, cap3, rfl, hT, HB3.out⟩
end Go.Proofs.YtdenhfhdobcfiaaDoor
