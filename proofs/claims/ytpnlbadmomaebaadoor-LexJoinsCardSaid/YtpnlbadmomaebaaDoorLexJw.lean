/- The law LexJoins over what is asked of layer 10. Conditions: those that each theorem names. -/
import Derived.Test.YtpnlbadmomaebaaDoorLexLaw
import Derived.Test.YtpnlbadmomaebaaDoorLexJo
import Derived.Stop.LaidErr
namespace Go.Proofs.YtpnlbadmomaebaaDoor
open Go.RowKit
set_option linter.unusedVariables false
set_option maxRecDepth 100000

theorem lexT_good {t : List UInt8} (h : (lexS t).2.2 = true) (hl : t.length ≤ 400) : lexT t 400 = ((lexS t).1 ++ [⟨0, [], 0, false, t.length⟩], t.length, 0) := by
  unfold lexT; rw [if_neg (by omega), if_pos h]
theorem lexT_bad {t : List UInt8} (h : (lexS t).2.2 = false) (hl : t.length ≤ 400) : lexT t 400 = ([], (lexS t).2.1, 2) := by
  unfold lexT; rw [if_neg (by omega), if_neg (by simp [h])]
theorem lexFrom_le (t : List UInt8) : ∀ (f i : Nat), i ≤ t.length → (lexFrom t f i).2.1 ≤ t.length
  | 0, i, h => h
  | f + 1, i, h => by
    rw [lexFrom]
    by_cases hi : i < t.length
    · rw [if_pos hi]
      by_cases hz : (oneT (t.drop i)).2 = 0
      · rw [if_pos hz]; exact h
      · have hle := oneT_le (t.drop i)
        rw [List.length_drop] at hle
        rw [if_neg hz]
        exact lexFrom_le t f _ (passTo_le (by omega))
    · rw [if_neg hi]; exact h
theorem lexFrom_pos (t : List UInt8) : ∀ (f i : Nat), ∀ x ∈ (lexFrom t f i).1, x.pos ≤ t.length
  | 0, i, x, h => by simp [lexFrom] at h
  | f + 1, i, x, h => by
    rw [lexFrom] at h
    by_cases hi : i < t.length
    · rw [if_pos hi] at h
      by_cases hz : (oneT (t.drop i)).2 = 0
      · rw [if_pos hz] at h; simp at h
      · rw [if_neg hz] at h
        rcases List.mem_cons.1 h with rfl | h
        · show i ≤ t.length; omega
        · exact lexFrom_pos t f _ x h
    · rw [if_neg hi] at h; simp at h
theorem lexS_le (t : List UInt8) : (lexS t).2.1 ≤ t.length := lexFrom_le t _ _ (passTo_le (Nat.zero_le _))
theorem join_bad {a b bt : List UInt8} (hbt : passM false (bt ++ b) = bt.length + passM false b) (ha : (lexS a).2.2 = true) (hb : (lexS b).2.2 = false) (hl : (a ++ 10 :: (bt ++ b)).length ≤ 400) : lexT (a ++ 10 :: (bt ++ b)) 400 = ([], a.length + 1 + bt.length + (lexS b).2.1, 2) := by
  have h := lex_join a bt b ha hbt
  rw [lexT_bad (by rw [h]; exact hb) hl, h]
theorem join_good {a b bt : List UInt8} (hbt : passM false (bt ++ b) = bt.length + passM false b) (ha : (lexS a).2.2 = true) (hb : (lexS b).2.2 = true) (hl : (a ++ 10 :: (bt ++ b)).length ≤ 400) :
    lexT (a ++ 10 :: (bt ++ b)) 400 = ((lexS a).1 ++ ((lexS b).1 ++ [(⟨0, [], 0, false, b.length⟩ : Tk)]).map (later (a.length + 1 + bt.length)), a.length + 1 + bt.length + b.length, 0) := by
  have h := lex_join a bt b ha hbt
  have e : (a ++ 10 :: (bt ++ b)).length = a.length + 1 + bt.length + b.length := by simp; omega
  rw [lexT_good (by rw [h]; exact hb) hl, h, e]
  simp [later, tkAt]

theorem run_neq_tk (kd : Int) (s : ByteArray) (n : Int) (ng : Bool) (p : Int) (w : World) : (binOp .neq 37 (.agg #[.int .i64 kd, .string s, .int .u64 n, .bool ng, .int .i64 p]) (.agg #[.int .i64 kd, .string s, .int .u64 n, .bool ng, .int .i64 p])).run Tryd.prog w = .ok (.bool false) w := by
  go_simp

set_option maxHeartbeats 16000000 in
theorem lexjoins_walk (ok : LexOk) (w : World) (env : LexEnv w) (a : List UInt8) (ha : a.length ≤ 140737488351232) (b : List UInt8) (hb : b.length ≤ 140737488351232) (line : Bool) :
    Calls Tryd.prog 5 #[.string (strOf a), .string (strOf b), .bool line] w fun e w' => e = .returned (.bool true) ∧ Below w.heap.size w w' := by
  have HENV := Lib.hid env
  have HLV : Hid (∀ w, LexEnv w → Calls Tryd.prog 6 #[] w fun e w' => e = .returned (.bool true) ∧ Below w.heap.size w w') := Lib.hid (lexlive_any ok)
  obtain ⟨la, hla⟩ : ∃ la, la = a.length := ⟨_, rfl⟩
  obtain ⟨lb, hlb⟩ : ∃ lb, lb = b.length := ⟨_, rfl⟩
  obtain ⟨sa, hsa⟩ : ∃ sa, sa = strOf a := ⟨_, rfl⟩
  obtain ⟨sb, hsb⟩ : ∃ sb, sb = strOf b := ⟨_, rfl⟩
  have hza : sa.size = la := by rw [hsa, str_size, hla]
  have hzb : sb.size = lb := by rw [hsb, str_size, hlb]
  by_cases h150 : la ≤ 150 ∧ lb ≤ 150
  · obtain ⟨ha1, hb1⟩ := h150
    have g0 : decide ((la : Int) > 150) = false := decide_eq_false (by omega)
    have g1 : decide ((lb : Int) > 150) = false := decide_eq_false (by omega)
    have HX0 := fun w e => ok.lexes a 400 w e (by omega)
    have HY0 := fun w e => ok.lexes b 400 w e (by omega)
    rw [← hsa, ← hsb]
    rw [← hsa] at HX0
    rw [← hsb] at HY0
    clear ha hb
    cases line with
    | true =>
      have HJ : Hid (strOf (a ++ 10 :: ([47, 47, 10] ++ b)) = sa ++ ⟨#[10]⟩ ++ ⟨#[47, 47, 10]⟩ ++ sb) := Lib.hid (by
        rw [hsa, hsb, show (⟨#[10]⟩ : ByteArray) = strOf [10] from rfl, show (⟨#[47, 47, 10]⟩ : ByteArray) = strOf [47, 47, 10] from rfl, strOf_append, strOf_append, strOf_append]
        congr 1
        simp)
      have HZ0 := fun w e => ok.lexes (a ++ 10 :: ([47, 47, 10] ++ b)) 400 w e (by simp; omega)
      have k1 : ¬ 9223372036854775807 < la + 1 := by omega
      have k2 : ¬ 9223372036854775807 < la + 1 + 3 := by omega
      have k3 : ¬ 9223372036854775807 < la + 1 + 3 + lb := by omega
      rw [HJ.out] at HZ0
      cases hoka : (lexS a).2.2 with
      | false =>
        rw [lexT_bad hoka (by omega)] at HX0
        have HX := Lib.hid HX0
        have HY := Lib.hid HY0
        have HZ := Lib.hid HZ0
        clear HX0 HY0 HZ0 ok env hsa hsb hla hlb hoka HJ
        unfold RAllTo at HX HY HZ
        dsimp only [List.length_nil] at HX
        go_enter Tryd.func5, Tryd.ntmps5
        go_wp2_with (first
          | (go_at_call 7; with_reducible refine (HX.out _ HENV.out).mono ?_; rintro e w1 ⟨A1, cap1, rfl, ht, hb⟩; have HT1 := Lib.hid ht; have HB1 := Lib.hid hb; clear ht hb)
          | (go_at_call 7; with_reducible refine (HY.out _ (HENV.out.carry HB1.out)).mono ?_; rintro e w2 ⟨A2, cap2, rfl, ht, hb⟩; have HT2 := Lib.hid ht; have HT12 := Lib.hid (toks_bel HT1.out hb); have HB2 := Lib.hid (HB1.out.trans (hb.mono HB1.out.size)); clear ht hb)
          | (go_at_call 7; with_reducible refine (HZ.out _ (HENV.out.carry HB2.out)).mono ?_; rintro e w3 ⟨A3, cap3, rfl, ht, hb⟩; have HT3 := Lib.hid ht; have HT13 := Lib.hid (toks_bel HT12.out hb); have HT23 := Lib.hid (toks_bel HT2.out hb); have HB3 := Lib.hid (HB2.out.trans (hb.mono HB2.out.size)); have hl1 := HT13.out.le; have hm1 := HT13.out.max; have hl2 := HT23.out.le; have hm2 := HT23.out.max; have hl3 := HT3.out.le; have hm3 := HT3.out.max; clear ht hb)
          | (go_at_call 10; refine (lexnum_any _ _).mono ?_; rintro e w9 ⟨rfl, rfl⟩)
          | (go_at_call 6; refine (HLV.out _ (HENV.out.carry HB3.out)).mono ?_; rintro e w5 ⟨rfl, hb⟩; have HB5 := Lib.hid (HB3.out.trans (hb.mono HB3.out.size)); clear hb))
        go_ret
        exact ⟨rfl, HB5.out⟩
      | true =>
        rw [lexT_good hoka (by omega)] at HX0
        cases hokb : (lexS b).2.2 with
        | false =>
          rw [lexT_bad hokb (by omega)] at HY0
          rw [join_bad (pass_lf3 b) hoka hokb (by simp; omega)] at HZ0
          obtain ⟨pb, hpb⟩ : ∃ pb, pb = (lexS b).2.1 := ⟨_, rfl⟩
          rw [← hpb] at HY0 HZ0
          have hpl : pb ≤ 400 := by rw [hpb]; exact Nat.le_trans (lexS_le b) (by omega)
          rw [← hla] at HX0 HZ0
          have HX := Lib.hid HX0
          have HY := Lib.hid HY0
          have HZ := Lib.hid HZ0
          clear HX0 HY0 HZ0 ok env hsa hsb hla hlb hoka hokb HJ hpb
          unfold RAllTo at HX HY HZ
          dsimp only [List.length_nil] at HY HZ
          obtain ⟨px, hpx⟩ : ∃ px, px = ((lexS a).1 ++ [(⟨0, [], 0, false, la⟩ : Tk)]).length := ⟨_, rfl⟩
          have hp1 : 1 ≤ px := by rw [hpx]; simp
          rw [← hpx] at HX
          have e0 : ((px : Int) == 0) = false := beq_false_of_ne (by omega)
          have f0 : ¬ (px : Int) = 0 := by omega
          clear hpx
          obtain ⟨mz, hmz⟩ : ∃ mz, mz = la + 1 + ([47, 47, 10] : List UInt8).length + pb := ⟨_, rfl⟩
          rw [← hmz] at HZ
          have hmz2 : mz = la + 1 + 3 + pb := hmz
          have e1 : ((mz : Int) == (pb : Int) + (la : Int) + 1 + 3) = true := beq_iff_eq.2 (by omega)
          have f1 : (mz : Int) = (pb : Int) + (la : Int) + 1 + 3 := by omega
          clear hmz hmz2 f1
          go_enter Tryd.func5, Tryd.ntmps5
          go_wp2_with (first
              | (go_at_call 7; with_reducible refine (HX.out _ HENV.out).mono ?_; rintro e w1 ⟨A1, cap1, rfl, ht, hb⟩; have HT1 := Lib.hid ht; have HB1 := Lib.hid hb; clear ht hb)
              | (go_at_call 7; with_reducible refine (HY.out _ (HENV.out.carry HB1.out)).mono ?_; rintro e w2 ⟨A2, cap2, rfl, ht, hb⟩; have HT2 := Lib.hid ht; have HT12 := Lib.hid (toks_bel HT1.out hb); have HB2 := Lib.hid (HB1.out.trans (hb.mono HB1.out.size)); clear ht hb)
              | (go_at_call 7; with_reducible refine (HZ.out _ (HENV.out.carry HB2.out)).mono ?_; rintro e w3 ⟨A3, cap3, rfl, ht, hb⟩; have HT3 := Lib.hid ht; have HT13 := Lib.hid (toks_bel HT12.out hb); have HT23 := Lib.hid (toks_bel HT2.out hb); have HB3 := Lib.hid (HB2.out.trans (hb.mono HB2.out.size)); have hl1 := HT13.out.le; have hm1 := HT13.out.max; have hl2 := HT23.out.le; have hm2 := HT23.out.max; have hl3 := HT3.out.le; have hm3 := HT3.out.max; clear ht hb)
              | (go_at_call 10; refine (lexnum_any _ _).mono ?_; rintro e w9 ⟨rfl, rfl⟩)
              | (go_at_call 6; refine (HLV.out _ (HENV.out.carry HB3.out)).mono ?_; rintro e w5 ⟨rfl, hb⟩; have HB5 := Lib.hid (HB3.out.trans (hb.mono HB3.out.size)); clear hb))
          go_ret
          exact ⟨rfl, HB5.out⟩
        | true =>
          rw [lexT_good hokb (by omega)] at HY0
          rw [join_good (pass_lf3 b) hoka hokb (by simp; omega)] at HZ0
          have hpm := lexAt_many hoka
          have hpn := lexAt_many hokb
          rw [← hla] at HX0 HZ0
          rw [← hlb] at HY0 HZ0
          obtain ⟨X, hX⟩ : ∃ X, X = (lexS a).1 := ⟨_, rfl⟩
          obtain ⟨Y, hY⟩ : ∃ Y, Y = (lexS b).1 ++ [(⟨0, [], 0, false, lb⟩ : Tk)] := ⟨_, rfl⟩
          have hyl : Y.length = (lexS b).1.length + 1 := by rw [hY]; simp
          have hyp : ∀ y ∈ Y, y.pos ≤ lb := by
            intro y hy
            rw [hY] at hy
            rcases List.mem_append.1 hy with h | h
            · rw [hlb]; exact lexFrom_pos b _ _ y h
            · obtain rfl := List.mem_singleton.1 h; exact Nat.le_refl _
          rw [← hX] at HX0 HZ0 hpm
          rw [← hY] at HY0 HZ0
          obtain ⟨XE, hXE⟩ : ∃ XE, XE = X ++ [(⟨0, [], 0, false, la⟩ : Tk)] := ⟨_, rfl⟩
          rw [← hXE] at HX0
          obtain ⟨d, hd⟩ : ∃ d, d = la + 1 + ([47, 47, 10] : List UInt8).length := ⟨_, rfl⟩
          rw [← hd] at HZ0
          have hd2 : d = la + 1 + 3 := hd
          obtain ⟨Z, hZ⟩ : ∃ Z, Z = X ++ Y.map (later d) := ⟨_, rfl⟩
          rw [← hZ] at HZ0
          obtain ⟨p, hp⟩ : ∃ p, p = X.length := ⟨_, rfl⟩
          obtain ⟨px, hpx⟩ : ∃ px, px = XE.length := ⟨_, rfl⟩
          obtain ⟨py, hpy⟩ : ∃ py, py = Y.length := ⟨_, rfl⟩
          obtain ⟨pz, hpz⟩ : ∃ pz, pz = Z.length := ⟨_, rfl⟩
          have hx1 : px = p + 1 := by rw [hpx, hXE, hp]; simp
          have hz1 : pz = p + py := by rw [hpz, hZ, hp, hpy]; simp
          have HX := Lib.hid HX0
          have HY := Lib.hid HY0
          have HZ := Lib.hid HZ0
          unfold RAllTo at HX HY HZ
          dsimp only at HX HY HZ
          rw [← hpx] at HX
          rw [← hpy] at HY
          rw [← hpz] at HZ
          have HL1 : Hid (∀ (k : Nat), k < p → ∃ x, XE[k]? = some x ∧ Z[k]? = some x) := Lib.hid (fun k hk => by
            obtain ⟨x, hx⟩ : ∃ x, X[k]? = some x := ⟨_, List.getElem?_eq_getElem (by omega)⟩
            exact ⟨x, by rw [hXE, List.getElem?_append_left (by omega)]; exact hx, by rw [hZ, List.getElem?_append_left (by omega)]; exact hx⟩)
          have HL2 : Hid (∀ (k : Nat), p ≤ k → k < pz → ∃ y, Y[k - p]? = some y ∧ Z[k]? = some (later d y) ∧ y.pos ≤ lb) := Lib.hid (fun k hk hk2 => by
            obtain ⟨y, hy⟩ : ∃ y, Y[k - p]? = some y := ⟨_, List.getElem?_eq_getElem (by omega)⟩
            exact ⟨y, hy, by rw [hZ, List.getElem?_append_right (by omega), List.getElem?_map, ← hp, hy]; rfl, hyp y (List.mem_of_getElem? hy)⟩)
          have hp150 : p ≤ 150 := by omega
          have hy150 : py ≤ 151 := by omega
          have e0 : ((px : Int) == 0) = false := beq_false_of_ne (by omega)
          have f0 : ¬ (px : Int) = 0 := by omega
          have gx : (px : Int) - 1 = (p : Int) := by omega
          have gz : (px : Int) + (py : Int) - 1 = (pz : Int) := by omega
          clear HX0 HY0 HZ0 ok env hsa hsb hla hlb hoka hokb HJ hX hY hyp hXE hd hZ hp hpx hpy hpz hpm hpn hyl
          have HD := Lib.hid hd2
          have HX1 := Lib.hid hx1
          have HZ1 := Lib.hid hz1
          have hpz3 : pz ≤ 301 := by omega
          have hpx3 : px ≤ 151 := by omega
          clear hd2 hx1 hz1
          go_enter Tryd.func5, Tryd.ntmps5
          go_wp2_with (first
              | (go_at_call 7; with_reducible refine (HX.out _ HENV.out).mono ?_; rintro e w1 ⟨A1, cap1, rfl, ht, hb⟩; have HT1 := Lib.hid ht; have HB1 := Lib.hid hb; clear ht hb)
              | (go_at_call 7; with_reducible refine (HY.out _ (HENV.out.carry HB1.out)).mono ?_; rintro e w2 ⟨A2, cap2, rfl, ht, hb⟩; have HT2 := Lib.hid ht; have HT12 := Lib.hid (toks_bel HT1.out hb); have HB2 := Lib.hid (HB1.out.trans (hb.mono HB1.out.size)); clear ht hb)
              | (go_at_call 7; with_reducible refine (HZ.out _ (HENV.out.carry HB2.out)).mono ?_; rintro e w3 ⟨A3, cap3, rfl, ht, hb⟩; have HT3 := Lib.hid ht; have HT13 := Lib.hid (toks_bel HT12.out hb); have HT23 := Lib.hid (toks_bel HT2.out hb); have HB3 := Lib.hid (HB2.out.trans (hb.mono HB2.out.size)); have hl1 := HT13.out.le; have hm1 := HT13.out.max; have hl2 := HT23.out.le; have hm2 := HT23.out.max; have hl3 := HT3.out.le; have hm3 := HT3.out.max; clear ht hb)
              | (go_at_call 10; refine (lexnum_any _ _).mono ?_; rintro e w9 ⟨rfl, rfl⟩)
              | (go_at_call 6; refine (HLV.out _ (HENV.out.carry HB3.out)).mono ?_; rintro e w5 ⟨rfl, hb⟩; have HB5 := Lib.hid (HB3.out.trans (hb.mono HB3.out.size)); clear hb))
          go_loopw [17] (fun x wr => ∃ k : Nat, k ≤ pz ∧ x = .int .i64 (k : Int) ∧ Below w3.heap.size w3 wr) (fun x _ => pz - (intOf x).toNat)
          case atStart => exact ⟨0, Nat.zero_le _, rfl, Below.refl _ _⟩
          case round =>
            obtain ⟨k, hk, rfl, hbw⟩ := hrel
            have HBW := Lib.hid hbw
            clear hbw
            by_cases hlt : k < pz
            · have g5 : decide ((k : Int) < (pz : Int)) = true := decide_eq_true (by omega)
              by_cases hkp : k < p
              · have g6 : decide ((k : Int) < (p : Int)) = true := decide_eq_true (by omega)
                obtain ⟨x, hx, hz⟩ := HL1.out k hkp
                obtain ⟨g, off, rfl, hc⟩ := (toks_bel HT13.out HBW.out).cells k x hx
                obtain ⟨g', off', rfl, hd⟩ := (toks_bel HT3.out HBW.out).cells k x hz
                obtain ⟨kd, ss, nn, ng, ps⟩ := x
                have hkx : k < px := by have := HX1.out; omega
                have ac0 : ∀ o, (wr.alloc o).cell? ⟨g, off + k * 5, none⟩ = some (.int .i64 kd) := fun o => cell?_alloc_old o (hc 0 _ rfl)
                have ac1 : ∀ o, (wr.alloc o).cell? ⟨g, off + k * 5 + 1, none⟩ = some (.string (strOf ss)) := fun o => cell?_alloc_old o (hc 1 _ rfl)
                have ac2 : ∀ o, (wr.alloc o).cell? ⟨g, off + k * 5 + 2, none⟩ = some (.int .u64 (nn : Int)) := fun o => cell?_alloc_old o (hc 2 _ rfl)
                have ac3 : ∀ o, (wr.alloc o).cell? ⟨g, off + k * 5 + 3, none⟩ = some (.bool ng) := fun o => cell?_alloc_old o (hc 3 _ rfl)
                have ac4 : ∀ o, (wr.alloc o).cell? ⟨g, off + k * 5 + 4, none⟩ = some (.int .i64 (ps : Int)) := fun o => cell?_alloc_old o (hc 4 _ rfl)
                have c0 : wr.cell? ⟨g, off + k * 5, none⟩ = some (.int .i64 kd) := hc 0 _ rfl
                have c1 : wr.cell? ⟨g, off + k * 5 + 1, none⟩ = some (.string (strOf ss)) := hc 1 _ rfl
                have c2 : wr.cell? ⟨g, off + k * 5 + 2, none⟩ = some (.int .u64 (nn : Int)) := hc 2 _ rfl
                have c3 : wr.cell? ⟨g, off + k * 5 + 3, none⟩ = some (.bool ng) := hc 3 _ rfl
                have c4 : wr.cell? ⟨g, off + k * 5 + 4, none⟩ = some (.int .i64 (ps : Int)) := hc 4 _ rfl
                have ad0 : ∀ o, (wr.alloc o).cell? ⟨g', off' + k * 5, none⟩ = some (.int .i64 kd) := fun o => cell?_alloc_old o (hd 0 _ rfl)
                have ad1 : ∀ o, (wr.alloc o).cell? ⟨g', off' + k * 5 + 1, none⟩ = some (.string (strOf ss)) := fun o => cell?_alloc_old o (hd 1 _ rfl)
                have ad2 : ∀ o, (wr.alloc o).cell? ⟨g', off' + k * 5 + 2, none⟩ = some (.int .u64 (nn : Int)) := fun o => cell?_alloc_old o (hd 2 _ rfl)
                have ad3 : ∀ o, (wr.alloc o).cell? ⟨g', off' + k * 5 + 3, none⟩ = some (.bool ng) := fun o => cell?_alloc_old o (hd 3 _ rfl)
                have ad4 : ∀ o, (wr.alloc o).cell? ⟨g', off' + k * 5 + 4, none⟩ = some (.int .i64 (ps : Int)) := fun o => cell?_alloc_old o (hd 4 _ rfl)
                have d0 : wr.cell? ⟨g', off' + k * 5, none⟩ = some (.int .i64 kd) := hd 0 _ rfl
                have d1 : wr.cell? ⟨g', off' + k * 5 + 1, none⟩ = some (.string (strOf ss)) := hd 1 _ rfl
                have d2 : wr.cell? ⟨g', off' + k * 5 + 2, none⟩ = some (.int .u64 (nn : Int)) := hd 2 _ rfl
                have d3 : wr.cell? ⟨g', off' + k * 5 + 3, none⟩ = some (.bool ng) := hd 3 _ rfl
                have d4 : wr.cell? ⟨g', off' + k * 5 + 4, none⟩ = some (.int .i64 (ps : Int)) := hd 4 _ rfl
                have HQ : ∀ w : World, (binOp .neq 37 (.agg #[.int .i64 kd, .string (strOf ss), .int .u64 (nn : Int), .bool ng, .int .i64 (ps : Int)]) (.agg #[.int .i64 kd, .string (strOf ss), .int .u64 (nn : Int), .bool ng, .int .i64 (ps : Int)])).run Tryd.prog w = .ok (.bool false) w := fun w => run_neq_tk kd (strOf ss) (nn : Int) ng (ps : Int) w
                clear hc hd hx hz
                go_wp2
                go_quiet (fail)
                go_wp2
                have hfin := HBW.out.alloc HBW.out.size (.cells #[.int .i64 kd, .string (strOf ss), .int .u64 (nn : Int), .bool ng, .int .i64 (ps : Int)] 37)
                go_roundw
                case rel => exact ⟨k + 1, by omega, by go_num, hfin.os, hfin.tape, hfin.output, hfin.size, hfin.block⟩
                case measure => simp [intOf]; omega
              · have g6 : decide ((k : Int) < (p : Int)) = false := decide_eq_false (by omega)
                obtain ⟨x, hx, hz, hps0⟩ := HL2.out k (by omega) hlt
                obtain ⟨j, hj⟩ : ∃ j, j = k - p := ⟨_, rfl⟩
                rw [← hj] at hx
                have gj : (k : Int) - (px : Int) + 1 = (j : Int) := by have := HX1.out; omega
                have hjy : j < py := by have := HZ1.out; omega
                clear hj
                obtain ⟨g, off, rfl, hc⟩ := (toks_bel HT23.out HBW.out).cells j x hx
                obtain ⟨g', off', rfl, hd⟩ := (toks_bel HT3.out HBW.out).cells k (later d x) hz
                obtain ⟨kd, ss, nn, ng, ps⟩ := x
                have hps : ps ≤ 1000 := by dsimp only at hps0; omega
                clear hps0
                obtain ⟨qs, hqs⟩ : ∃ qs, qs = d + ps := ⟨_, rfl⟩
                have hdl : later d ⟨kd, ss, nn, ng, ps⟩ = ⟨kd, ss, nn, ng, qs⟩ := by rw [hqs]; rfl
                rw [hdl] at hd
                have ga : (qs : Int) - (la : Int) - 1 - 3 = (ps : Int) := by have := HD.out; omega
                have ac0 : ∀ o, (wr.alloc o).cell? ⟨g, off + j * 5, none⟩ = some (.int .i64 kd) := fun o => cell?_alloc_old o (hc 0 _ rfl)
                have ac1 : ∀ o, (wr.alloc o).cell? ⟨g, off + j * 5 + 1, none⟩ = some (.string (strOf ss)) := fun o => cell?_alloc_old o (hc 1 _ rfl)
                have ac2 : ∀ o, (wr.alloc o).cell? ⟨g, off + j * 5 + 2, none⟩ = some (.int .u64 (nn : Int)) := fun o => cell?_alloc_old o (hc 2 _ rfl)
                have ac3 : ∀ o, (wr.alloc o).cell? ⟨g, off + j * 5 + 3, none⟩ = some (.bool ng) := fun o => cell?_alloc_old o (hc 3 _ rfl)
                have ac4 : ∀ o, (wr.alloc o).cell? ⟨g, off + j * 5 + 4, none⟩ = some (.int .i64 (ps : Int)) := fun o => cell?_alloc_old o (hc 4 _ rfl)
                have c0 : wr.cell? ⟨g, off + j * 5, none⟩ = some (.int .i64 kd) := hc 0 _ rfl
                have c1 : wr.cell? ⟨g, off + j * 5 + 1, none⟩ = some (.string (strOf ss)) := hc 1 _ rfl
                have c2 : wr.cell? ⟨g, off + j * 5 + 2, none⟩ = some (.int .u64 (nn : Int)) := hc 2 _ rfl
                have c3 : wr.cell? ⟨g, off + j * 5 + 3, none⟩ = some (.bool ng) := hc 3 _ rfl
                have c4 : wr.cell? ⟨g, off + j * 5 + 4, none⟩ = some (.int .i64 (ps : Int)) := hc 4 _ rfl
                have ad0 : ∀ o, (wr.alloc o).cell? ⟨g', off' + k * 5, none⟩ = some (.int .i64 kd) := fun o => cell?_alloc_old o (hd 0 _ rfl)
                have ad1 : ∀ o, (wr.alloc o).cell? ⟨g', off' + k * 5 + 1, none⟩ = some (.string (strOf ss)) := fun o => cell?_alloc_old o (hd 1 _ rfl)
                have ad2 : ∀ o, (wr.alloc o).cell? ⟨g', off' + k * 5 + 2, none⟩ = some (.int .u64 (nn : Int)) := fun o => cell?_alloc_old o (hd 2 _ rfl)
                have ad3 : ∀ o, (wr.alloc o).cell? ⟨g', off' + k * 5 + 3, none⟩ = some (.bool ng) := fun o => cell?_alloc_old o (hd 3 _ rfl)
                have ad4 : ∀ o, (wr.alloc o).cell? ⟨g', off' + k * 5 + 4, none⟩ = some (.int .i64 (qs : Int)) := fun o => cell?_alloc_old o (hd 4 _ rfl)
                have d0 : wr.cell? ⟨g', off' + k * 5, none⟩ = some (.int .i64 kd) := hd 0 _ rfl
                have d1 : wr.cell? ⟨g', off' + k * 5 + 1, none⟩ = some (.string (strOf ss)) := hd 1 _ rfl
                have d2 : wr.cell? ⟨g', off' + k * 5 + 2, none⟩ = some (.int .u64 (nn : Int)) := hd 2 _ rfl
                have d3 : wr.cell? ⟨g', off' + k * 5 + 3, none⟩ = some (.bool ng) := hd 3 _ rfl
                have d4 : wr.cell? ⟨g', off' + k * 5 + 4, none⟩ = some (.int .i64 (qs : Int)) := hd 4 _ rfl
                have HQ : ∀ w : World, (binOp .neq 37 (.agg #[.int .i64 kd, .string (strOf ss), .int .u64 (nn : Int), .bool ng, .int .i64 (ps : Int)]) (.agg #[.int .i64 kd, .string (strOf ss), .int .u64 (nn : Int), .bool ng, .int .i64 (ps : Int)])).run Tryd.prog w = .ok (.bool false) w := fun w => run_neq_tk kd (strOf ss) (nn : Int) ng (ps : Int) w
                clear hc hd hx hz hdl hqs
                go_wp2
                go_quiet (fail)
                go_wp2
                have hfin := HBW.out.alloc HBW.out.size (.cells #[.int .i64 kd, .string (strOf ss), .int .u64 (nn : Int), .bool ng, .int .i64 (ps : Int)] 37)
                go_roundw
                case rel => exact ⟨k + 1, by omega, by go_num, hfin.os, hfin.tape, hfin.output, hfin.size, hfin.block⟩
                case measure => simp [intOf]; omega
            · have g5 : decide ((k : Int) < (pz : Int)) = false := decide_eq_false (by omega)
              go_wp2_with (go_at_call 6; refine (HLV.out _ (HENV.out.carry (HB3.out.trans (HBW.out.mono HB3.out.size)))).mono ?_; rintro e w5 ⟨rfl, hb5⟩)
              go_ret
              exact ⟨rfl, (HB3.out.trans (HBW.out.mono HB3.out.size)).trans (hb5.mono (HB3.out.trans (HBW.out.mono HB3.out.size)).size)⟩
    | false =>
      have HJ : Hid (strOf (a ++ 10 :: ([32] ++ b)) = sa ++ ⟨#[10]⟩ ++ ⟨#[32]⟩ ++ sb) := Lib.hid (by
        rw [hsa, hsb, show (⟨#[10]⟩ : ByteArray) = strOf [10] from rfl, show (⟨#[32]⟩ : ByteArray) = strOf [32] from rfl, strOf_append, strOf_append, strOf_append]
        congr 1
        simp)
      have HZ0 := fun w e => ok.lexes (a ++ 10 :: ([32] ++ b)) 400 w e (by simp; omega)
      have k1 : ¬ 9223372036854775807 < la + 1 := by omega
      have k2 : ¬ 9223372036854775807 < la + 1 + 1 := by omega
      have k3 : ¬ 9223372036854775807 < la + 1 + 1 + lb := by omega
      rw [HJ.out] at HZ0
      cases hoka : (lexS a).2.2 with
      | false =>
        rw [lexT_bad hoka (by omega)] at HX0
        have HX := Lib.hid HX0
        have HY := Lib.hid HY0
        have HZ := Lib.hid HZ0
        clear HX0 HY0 HZ0 ok env hsa hsb hla hlb hoka HJ
        unfold RAllTo at HX HY HZ
        dsimp only [List.length_nil] at HX
        go_enter Tryd.func5, Tryd.ntmps5
        go_wp2_with (first
          | (go_at_call 7; with_reducible refine (HX.out _ HENV.out).mono ?_; rintro e w1 ⟨A1, cap1, rfl, ht, hb⟩; have HT1 := Lib.hid ht; have HB1 := Lib.hid hb; clear ht hb)
          | (go_at_call 7; with_reducible refine (HY.out _ (HENV.out.carry HB1.out)).mono ?_; rintro e w2 ⟨A2, cap2, rfl, ht, hb⟩; have HT2 := Lib.hid ht; have HT12 := Lib.hid (toks_bel HT1.out hb); have HB2 := Lib.hid (HB1.out.trans (hb.mono HB1.out.size)); clear ht hb)
          | (go_at_call 7; with_reducible refine (HZ.out _ (HENV.out.carry HB2.out)).mono ?_; rintro e w3 ⟨A3, cap3, rfl, ht, hb⟩; have HT3 := Lib.hid ht; have HT13 := Lib.hid (toks_bel HT12.out hb); have HT23 := Lib.hid (toks_bel HT2.out hb); have HB3 := Lib.hid (HB2.out.trans (hb.mono HB2.out.size)); have hl1 := HT13.out.le; have hm1 := HT13.out.max; have hl2 := HT23.out.le; have hm2 := HT23.out.max; have hl3 := HT3.out.le; have hm3 := HT3.out.max; clear ht hb)
          | (go_at_call 10; refine (lexnum_any _ _).mono ?_; rintro e w9 ⟨rfl, rfl⟩)
          | (go_at_call 6; refine (HLV.out _ (HENV.out.carry HB3.out)).mono ?_; rintro e w5 ⟨rfl, hb⟩; have HB5 := Lib.hid (HB3.out.trans (hb.mono HB3.out.size)); clear hb))
        go_ret
        exact ⟨rfl, HB5.out⟩
      | true =>
        rw [lexT_good hoka (by omega)] at HX0
        cases hokb : (lexS b).2.2 with
        | false =>
          rw [lexT_bad hokb (by omega)] at HY0
          rw [join_bad (pass_blank b) hoka hokb (by simp; omega)] at HZ0
          obtain ⟨pb, hpb⟩ : ∃ pb, pb = (lexS b).2.1 := ⟨_, rfl⟩
          rw [← hpb] at HY0 HZ0
          have hpl : pb ≤ 400 := by rw [hpb]; exact Nat.le_trans (lexS_le b) (by omega)
          rw [← hla] at HX0 HZ0
          have HX := Lib.hid HX0
          have HY := Lib.hid HY0
          have HZ := Lib.hid HZ0
          clear HX0 HY0 HZ0 ok env hsa hsb hla hlb hoka hokb HJ hpb
          unfold RAllTo at HX HY HZ
          dsimp only [List.length_nil] at HY HZ
          obtain ⟨px, hpx⟩ : ∃ px, px = ((lexS a).1 ++ [(⟨0, [], 0, false, la⟩ : Tk)]).length := ⟨_, rfl⟩
          have hp1 : 1 ≤ px := by rw [hpx]; simp
          rw [← hpx] at HX
          have e0 : ((px : Int) == 0) = false := beq_false_of_ne (by omega)
          have f0 : ¬ (px : Int) = 0 := by omega
          clear hpx
          obtain ⟨mz, hmz⟩ : ∃ mz, mz = la + 1 + ([32] : List UInt8).length + pb := ⟨_, rfl⟩
          rw [← hmz] at HZ
          have hmz2 : mz = la + 1 + 1 + pb := hmz
          have e1 : ((mz : Int) == (pb : Int) + (la : Int) + 1 + 1) = true := beq_iff_eq.2 (by omega)
          have f1 : (mz : Int) = (pb : Int) + (la : Int) + 1 + 1 := by omega
          clear hmz hmz2 f1
          go_enter Tryd.func5, Tryd.ntmps5
          go_wp2_with (first
              | (go_at_call 7; with_reducible refine (HX.out _ HENV.out).mono ?_; rintro e w1 ⟨A1, cap1, rfl, ht, hb⟩; have HT1 := Lib.hid ht; have HB1 := Lib.hid hb; clear ht hb)
              | (go_at_call 7; with_reducible refine (HY.out _ (HENV.out.carry HB1.out)).mono ?_; rintro e w2 ⟨A2, cap2, rfl, ht, hb⟩; have HT2 := Lib.hid ht; have HT12 := Lib.hid (toks_bel HT1.out hb); have HB2 := Lib.hid (HB1.out.trans (hb.mono HB1.out.size)); clear ht hb)
              | (go_at_call 7; with_reducible refine (HZ.out _ (HENV.out.carry HB2.out)).mono ?_; rintro e w3 ⟨A3, cap3, rfl, ht, hb⟩; have HT3 := Lib.hid ht; have HT13 := Lib.hid (toks_bel HT12.out hb); have HT23 := Lib.hid (toks_bel HT2.out hb); have HB3 := Lib.hid (HB2.out.trans (hb.mono HB2.out.size)); have hl1 := HT13.out.le; have hm1 := HT13.out.max; have hl2 := HT23.out.le; have hm2 := HT23.out.max; have hl3 := HT3.out.le; have hm3 := HT3.out.max; clear ht hb)
              | (go_at_call 10; refine (lexnum_any _ _).mono ?_; rintro e w9 ⟨rfl, rfl⟩)
              | (go_at_call 6; refine (HLV.out _ (HENV.out.carry HB3.out)).mono ?_; rintro e w5 ⟨rfl, hb⟩; have HB5 := Lib.hid (HB3.out.trans (hb.mono HB3.out.size)); clear hb))
          go_ret
          exact ⟨rfl, HB5.out⟩
        | true =>
          rw [lexT_good hokb (by omega)] at HY0
          rw [join_good (pass_blank b) hoka hokb (by simp; omega)] at HZ0
          have hpm := lexAt_many hoka
          have hpn := lexAt_many hokb
          rw [← hla] at HX0 HZ0
          rw [← hlb] at HY0 HZ0
          obtain ⟨X, hX⟩ : ∃ X, X = (lexS a).1 := ⟨_, rfl⟩
          obtain ⟨Y, hY⟩ : ∃ Y, Y = (lexS b).1 ++ [(⟨0, [], 0, false, lb⟩ : Tk)] := ⟨_, rfl⟩
          have hyl : Y.length = (lexS b).1.length + 1 := by rw [hY]; simp
          have hyp : ∀ y ∈ Y, y.pos ≤ lb := by
            intro y hy
            rw [hY] at hy
            rcases List.mem_append.1 hy with h | h
            · rw [hlb]; exact lexFrom_pos b _ _ y h
            · obtain rfl := List.mem_singleton.1 h; exact Nat.le_refl _
          rw [← hX] at HX0 HZ0 hpm
          rw [← hY] at HY0 HZ0
          obtain ⟨XE, hXE⟩ : ∃ XE, XE = X ++ [(⟨0, [], 0, false, la⟩ : Tk)] := ⟨_, rfl⟩
          rw [← hXE] at HX0
          obtain ⟨d, hd⟩ : ∃ d, d = la + 1 + ([32] : List UInt8).length := ⟨_, rfl⟩
          rw [← hd] at HZ0
          have hd2 : d = la + 1 + 1 := hd
          obtain ⟨Z, hZ⟩ : ∃ Z, Z = X ++ Y.map (later d) := ⟨_, rfl⟩
          rw [← hZ] at HZ0
          obtain ⟨p, hp⟩ : ∃ p, p = X.length := ⟨_, rfl⟩
          obtain ⟨px, hpx⟩ : ∃ px, px = XE.length := ⟨_, rfl⟩
          obtain ⟨py, hpy⟩ : ∃ py, py = Y.length := ⟨_, rfl⟩
          obtain ⟨pz, hpz⟩ : ∃ pz, pz = Z.length := ⟨_, rfl⟩
          have hx1 : px = p + 1 := by rw [hpx, hXE, hp]; simp
          have hz1 : pz = p + py := by rw [hpz, hZ, hp, hpy]; simp
          have HX := Lib.hid HX0
          have HY := Lib.hid HY0
          have HZ := Lib.hid HZ0
          unfold RAllTo at HX HY HZ
          dsimp only at HX HY HZ
          rw [← hpx] at HX
          rw [← hpy] at HY
          rw [← hpz] at HZ
          have HL1 : Hid (∀ (k : Nat), k < p → ∃ x, XE[k]? = some x ∧ Z[k]? = some x) := Lib.hid (fun k hk => by
            obtain ⟨x, hx⟩ : ∃ x, X[k]? = some x := ⟨_, List.getElem?_eq_getElem (by omega)⟩
            exact ⟨x, by rw [hXE, List.getElem?_append_left (by omega)]; exact hx, by rw [hZ, List.getElem?_append_left (by omega)]; exact hx⟩)
          have HL2 : Hid (∀ (k : Nat), p ≤ k → k < pz → ∃ y, Y[k - p]? = some y ∧ Z[k]? = some (later d y) ∧ y.pos ≤ lb) := Lib.hid (fun k hk hk2 => by
            obtain ⟨y, hy⟩ : ∃ y, Y[k - p]? = some y := ⟨_, List.getElem?_eq_getElem (by omega)⟩
            exact ⟨y, hy, by rw [hZ, List.getElem?_append_right (by omega), List.getElem?_map, ← hp, hy]; rfl, hyp y (List.mem_of_getElem? hy)⟩)
          have hp150 : p ≤ 150 := by omega
          have hy150 : py ≤ 151 := by omega
          have e0 : ((px : Int) == 0) = false := beq_false_of_ne (by omega)
          have f0 : ¬ (px : Int) = 0 := by omega
          have gx : (px : Int) - 1 = (p : Int) := by omega
          have gz : (px : Int) + (py : Int) - 1 = (pz : Int) := by omega
          clear HX0 HY0 HZ0 ok env hsa hsb hla hlb hoka hokb HJ hX hY hyp hXE hd hZ hp hpx hpy hpz hpm hpn hyl
          have HD := Lib.hid hd2
          have HX1 := Lib.hid hx1
          have HZ1 := Lib.hid hz1
          have hpz3 : pz ≤ 301 := by omega
          have hpx3 : px ≤ 151 := by omega
          clear hd2 hx1 hz1
          go_enter Tryd.func5, Tryd.ntmps5
          go_wp2_with (first
              | (go_at_call 7; with_reducible refine (HX.out _ HENV.out).mono ?_; rintro e w1 ⟨A1, cap1, rfl, ht, hb⟩; have HT1 := Lib.hid ht; have HB1 := Lib.hid hb; clear ht hb)
              | (go_at_call 7; with_reducible refine (HY.out _ (HENV.out.carry HB1.out)).mono ?_; rintro e w2 ⟨A2, cap2, rfl, ht, hb⟩; have HT2 := Lib.hid ht; have HT12 := Lib.hid (toks_bel HT1.out hb); have HB2 := Lib.hid (HB1.out.trans (hb.mono HB1.out.size)); clear ht hb)
              | (go_at_call 7; with_reducible refine (HZ.out _ (HENV.out.carry HB2.out)).mono ?_; rintro e w3 ⟨A3, cap3, rfl, ht, hb⟩; have HT3 := Lib.hid ht; have HT13 := Lib.hid (toks_bel HT12.out hb); have HT23 := Lib.hid (toks_bel HT2.out hb); have HB3 := Lib.hid (HB2.out.trans (hb.mono HB2.out.size)); have hl1 := HT13.out.le; have hm1 := HT13.out.max; have hl2 := HT23.out.le; have hm2 := HT23.out.max; have hl3 := HT3.out.le; have hm3 := HT3.out.max; clear ht hb)
              | (go_at_call 10; refine (lexnum_any _ _).mono ?_; rintro e w9 ⟨rfl, rfl⟩)
              | (go_at_call 6; refine (HLV.out _ (HENV.out.carry HB3.out)).mono ?_; rintro e w5 ⟨rfl, hb⟩; have HB5 := Lib.hid (HB3.out.trans (hb.mono HB3.out.size)); clear hb))
          go_loopw [17] (fun x wr => ∃ k : Nat, k ≤ pz ∧ x = .int .i64 (k : Int) ∧ Below w3.heap.size w3 wr) (fun x _ => pz - (intOf x).toNat)
          case atStart => exact ⟨0, Nat.zero_le _, rfl, Below.refl _ _⟩
          case round =>
            obtain ⟨k, hk, rfl, hbw⟩ := hrel
            have HBW := Lib.hid hbw
            clear hbw
            by_cases hlt : k < pz
            · have g5 : decide ((k : Int) < (pz : Int)) = true := decide_eq_true (by omega)
              by_cases hkp : k < p
              · have g6 : decide ((k : Int) < (p : Int)) = true := decide_eq_true (by omega)
                obtain ⟨x, hx, hz⟩ := HL1.out k hkp
                obtain ⟨g, off, rfl, hc⟩ := (toks_bel HT13.out HBW.out).cells k x hx
                obtain ⟨g', off', rfl, hd⟩ := (toks_bel HT3.out HBW.out).cells k x hz
                obtain ⟨kd, ss, nn, ng, ps⟩ := x
                have hkx : k < px := by have := HX1.out; omega
                have ac0 : ∀ o, (wr.alloc o).cell? ⟨g, off + k * 5, none⟩ = some (.int .i64 kd) := fun o => cell?_alloc_old o (hc 0 _ rfl)
                have ac1 : ∀ o, (wr.alloc o).cell? ⟨g, off + k * 5 + 1, none⟩ = some (.string (strOf ss)) := fun o => cell?_alloc_old o (hc 1 _ rfl)
                have ac2 : ∀ o, (wr.alloc o).cell? ⟨g, off + k * 5 + 2, none⟩ = some (.int .u64 (nn : Int)) := fun o => cell?_alloc_old o (hc 2 _ rfl)
                have ac3 : ∀ o, (wr.alloc o).cell? ⟨g, off + k * 5 + 3, none⟩ = some (.bool ng) := fun o => cell?_alloc_old o (hc 3 _ rfl)
                have ac4 : ∀ o, (wr.alloc o).cell? ⟨g, off + k * 5 + 4, none⟩ = some (.int .i64 (ps : Int)) := fun o => cell?_alloc_old o (hc 4 _ rfl)
                have c0 : wr.cell? ⟨g, off + k * 5, none⟩ = some (.int .i64 kd) := hc 0 _ rfl
                have c1 : wr.cell? ⟨g, off + k * 5 + 1, none⟩ = some (.string (strOf ss)) := hc 1 _ rfl
                have c2 : wr.cell? ⟨g, off + k * 5 + 2, none⟩ = some (.int .u64 (nn : Int)) := hc 2 _ rfl
                have c3 : wr.cell? ⟨g, off + k * 5 + 3, none⟩ = some (.bool ng) := hc 3 _ rfl
                have c4 : wr.cell? ⟨g, off + k * 5 + 4, none⟩ = some (.int .i64 (ps : Int)) := hc 4 _ rfl
                have ad0 : ∀ o, (wr.alloc o).cell? ⟨g', off' + k * 5, none⟩ = some (.int .i64 kd) := fun o => cell?_alloc_old o (hd 0 _ rfl)
                have ad1 : ∀ o, (wr.alloc o).cell? ⟨g', off' + k * 5 + 1, none⟩ = some (.string (strOf ss)) := fun o => cell?_alloc_old o (hd 1 _ rfl)
                have ad2 : ∀ o, (wr.alloc o).cell? ⟨g', off' + k * 5 + 2, none⟩ = some (.int .u64 (nn : Int)) := fun o => cell?_alloc_old o (hd 2 _ rfl)
                have ad3 : ∀ o, (wr.alloc o).cell? ⟨g', off' + k * 5 + 3, none⟩ = some (.bool ng) := fun o => cell?_alloc_old o (hd 3 _ rfl)
                have ad4 : ∀ o, (wr.alloc o).cell? ⟨g', off' + k * 5 + 4, none⟩ = some (.int .i64 (ps : Int)) := fun o => cell?_alloc_old o (hd 4 _ rfl)
                have d0 : wr.cell? ⟨g', off' + k * 5, none⟩ = some (.int .i64 kd) := hd 0 _ rfl
                have d1 : wr.cell? ⟨g', off' + k * 5 + 1, none⟩ = some (.string (strOf ss)) := hd 1 _ rfl
                have d2 : wr.cell? ⟨g', off' + k * 5 + 2, none⟩ = some (.int .u64 (nn : Int)) := hd 2 _ rfl
                have d3 : wr.cell? ⟨g', off' + k * 5 + 3, none⟩ = some (.bool ng) := hd 3 _ rfl
                have d4 : wr.cell? ⟨g', off' + k * 5 + 4, none⟩ = some (.int .i64 (ps : Int)) := hd 4 _ rfl
                have HQ : ∀ w : World, (binOp .neq 37 (.agg #[.int .i64 kd, .string (strOf ss), .int .u64 (nn : Int), .bool ng, .int .i64 (ps : Int)]) (.agg #[.int .i64 kd, .string (strOf ss), .int .u64 (nn : Int), .bool ng, .int .i64 (ps : Int)])).run Tryd.prog w = .ok (.bool false) w := fun w => run_neq_tk kd (strOf ss) (nn : Int) ng (ps : Int) w
                clear hc hd hx hz
                go_wp2
                go_quiet (fail)
                go_wp2
                have hfin := HBW.out.alloc HBW.out.size (.cells #[.int .i64 kd, .string (strOf ss), .int .u64 (nn : Int), .bool ng, .int .i64 (ps : Int)] 37)
                go_roundw
                case rel => exact ⟨k + 1, by omega, by go_num, hfin.os, hfin.tape, hfin.output, hfin.size, hfin.block⟩
                case measure => simp [intOf]; omega
              · have g6 : decide ((k : Int) < (p : Int)) = false := decide_eq_false (by omega)
                obtain ⟨x, hx, hz, hps0⟩ := HL2.out k (by omega) hlt
                obtain ⟨j, hj⟩ : ∃ j, j = k - p := ⟨_, rfl⟩
                rw [← hj] at hx
                have gj : (k : Int) - (px : Int) + 1 = (j : Int) := by have := HX1.out; omega
                have hjy : j < py := by have := HZ1.out; omega
                clear hj
                obtain ⟨g, off, rfl, hc⟩ := (toks_bel HT23.out HBW.out).cells j x hx
                obtain ⟨g', off', rfl, hd⟩ := (toks_bel HT3.out HBW.out).cells k (later d x) hz
                obtain ⟨kd, ss, nn, ng, ps⟩ := x
                have hps : ps ≤ 1000 := by dsimp only at hps0; omega
                clear hps0
                obtain ⟨qs, hqs⟩ : ∃ qs, qs = d + ps := ⟨_, rfl⟩
                have hdl : later d ⟨kd, ss, nn, ng, ps⟩ = ⟨kd, ss, nn, ng, qs⟩ := by rw [hqs]; rfl
                rw [hdl] at hd
                have ga : (qs : Int) - (la : Int) - 1 - 1 = (ps : Int) := by have := HD.out; omega
                have ac0 : ∀ o, (wr.alloc o).cell? ⟨g, off + j * 5, none⟩ = some (.int .i64 kd) := fun o => cell?_alloc_old o (hc 0 _ rfl)
                have ac1 : ∀ o, (wr.alloc o).cell? ⟨g, off + j * 5 + 1, none⟩ = some (.string (strOf ss)) := fun o => cell?_alloc_old o (hc 1 _ rfl)
                have ac2 : ∀ o, (wr.alloc o).cell? ⟨g, off + j * 5 + 2, none⟩ = some (.int .u64 (nn : Int)) := fun o => cell?_alloc_old o (hc 2 _ rfl)
                have ac3 : ∀ o, (wr.alloc o).cell? ⟨g, off + j * 5 + 3, none⟩ = some (.bool ng) := fun o => cell?_alloc_old o (hc 3 _ rfl)
                have ac4 : ∀ o, (wr.alloc o).cell? ⟨g, off + j * 5 + 4, none⟩ = some (.int .i64 (ps : Int)) := fun o => cell?_alloc_old o (hc 4 _ rfl)
                have c0 : wr.cell? ⟨g, off + j * 5, none⟩ = some (.int .i64 kd) := hc 0 _ rfl
                have c1 : wr.cell? ⟨g, off + j * 5 + 1, none⟩ = some (.string (strOf ss)) := hc 1 _ rfl
                have c2 : wr.cell? ⟨g, off + j * 5 + 2, none⟩ = some (.int .u64 (nn : Int)) := hc 2 _ rfl
                have c3 : wr.cell? ⟨g, off + j * 5 + 3, none⟩ = some (.bool ng) := hc 3 _ rfl
                have c4 : wr.cell? ⟨g, off + j * 5 + 4, none⟩ = some (.int .i64 (ps : Int)) := hc 4 _ rfl
                have ad0 : ∀ o, (wr.alloc o).cell? ⟨g', off' + k * 5, none⟩ = some (.int .i64 kd) := fun o => cell?_alloc_old o (hd 0 _ rfl)
                have ad1 : ∀ o, (wr.alloc o).cell? ⟨g', off' + k * 5 + 1, none⟩ = some (.string (strOf ss)) := fun o => cell?_alloc_old o (hd 1 _ rfl)
                have ad2 : ∀ o, (wr.alloc o).cell? ⟨g', off' + k * 5 + 2, none⟩ = some (.int .u64 (nn : Int)) := fun o => cell?_alloc_old o (hd 2 _ rfl)
                have ad3 : ∀ o, (wr.alloc o).cell? ⟨g', off' + k * 5 + 3, none⟩ = some (.bool ng) := fun o => cell?_alloc_old o (hd 3 _ rfl)
                have ad4 : ∀ o, (wr.alloc o).cell? ⟨g', off' + k * 5 + 4, none⟩ = some (.int .i64 (qs : Int)) := fun o => cell?_alloc_old o (hd 4 _ rfl)
                have d0 : wr.cell? ⟨g', off' + k * 5, none⟩ = some (.int .i64 kd) := hd 0 _ rfl
                have d1 : wr.cell? ⟨g', off' + k * 5 + 1, none⟩ = some (.string (strOf ss)) := hd 1 _ rfl
                have d2 : wr.cell? ⟨g', off' + k * 5 + 2, none⟩ = some (.int .u64 (nn : Int)) := hd 2 _ rfl
                have d3 : wr.cell? ⟨g', off' + k * 5 + 3, none⟩ = some (.bool ng) := hd 3 _ rfl
                have d4 : wr.cell? ⟨g', off' + k * 5 + 4, none⟩ = some (.int .i64 (qs : Int)) := hd 4 _ rfl
                have HQ : ∀ w : World, (binOp .neq 37 (.agg #[.int .i64 kd, .string (strOf ss), .int .u64 (nn : Int), .bool ng, .int .i64 (ps : Int)]) (.agg #[.int .i64 kd, .string (strOf ss), .int .u64 (nn : Int), .bool ng, .int .i64 (ps : Int)])).run Tryd.prog w = .ok (.bool false) w := fun w => run_neq_tk kd (strOf ss) (nn : Int) ng (ps : Int) w
                clear hc hd hx hz hdl hqs
                go_wp2
                go_quiet (fail)
                go_wp2
                have hfin := HBW.out.alloc HBW.out.size (.cells #[.int .i64 kd, .string (strOf ss), .int .u64 (nn : Int), .bool ng, .int .i64 (ps : Int)] 37)
                go_roundw
                case rel => exact ⟨k + 1, by omega, by go_num, hfin.os, hfin.tape, hfin.output, hfin.size, hfin.block⟩
                case measure => simp [intOf]; omega
            · have g5 : decide ((k : Int) < (pz : Int)) = false := decide_eq_false (by omega)
              go_wp2_with (go_at_call 6; refine (HLV.out _ (HENV.out.carry (HB3.out.trans (HBW.out.mono HB3.out.size)))).mono ?_; rintro e w5 ⟨rfl, hb5⟩)
              go_ret
              exact ⟨rfl, (HB3.out.trans (HBW.out.mono HB3.out.size)).trans (hb5.mono (HB3.out.trans (HBW.out.mono HB3.out.size)).size)⟩
  · rw [← hsa, ← hsb]
    by_cases h1 : 150 < la
    · have g0 : decide ((la : Int) > 150) = true := decide_eq_true (by omega)
      clear ok hla hlb hsa hsb ha hb h150
      go_enter Tryd.func5, Tryd.ntmps5
      go_wp2_with (go_at_call 6; refine (HLV.out _ env).mono ?_; rintro e w5 ⟨rfl, hb5⟩)
      go_ret
      exact ⟨rfl, hb5⟩
    · have g0 : decide ((la : Int) > 150) = false := decide_eq_false (by omega)
      have g1 : decide ((lb : Int) > 150) = true := decide_eq_true (by omega)
      clear ok hla hlb hsa hsb ha hb h150
      go_enter Tryd.func5, Tryd.ntmps5
      go_wp2_with (go_at_call 6; refine (HLV.out _ env).mono ?_; rintro e w5 ⟨rfl, hb5⟩)
      go_ret
      exact ⟨rfl, hb5⟩
end Go.Proofs.YtpnlbadmomaebaaDoor
