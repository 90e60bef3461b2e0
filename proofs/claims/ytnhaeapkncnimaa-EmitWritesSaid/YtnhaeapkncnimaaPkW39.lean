/- Several texts in one: EmWalk. What each proves, and its conditions, stands at its own head. -/
import Derived.Test.YtnhaeapkncnimaaPkW36
import Derived.Test.YtnhaeapkncnimaaPkW37
import Derived.Test.YtnhaeapkncnimaaPkW34
import Derived.Test.YtnhaeapkncnimaaPkW1
import Derived.Deep.CutRange
/- EmitWrites. -/
namespace Go.Proofs.Ytnhaeapkncnimaa
open Go.RowKit
open Go.Lib (uvarint)
set_option linter.unusedVariables false
set_option maxRecDepth 100000

theorem Rf.mono {B B' p : Nat} {S : Nat → Prop} {s : Rs} {w : World} (h : Rf B w p S s) (hb : B' ≤ B) : Rf B' w p S s := by
  obtain ⟨vp, vn, vs, h⟩ := h
  exact ⟨vp, vn, vs, h.obj, own_mono h.row hb, own_mono h.nums hb, h.part, h.sp, h.sv, h.sn, fun k hk => ⟨Nat.le_trans hb (h.lt k hk).1, (h.lt k hk).2⟩⟩
/-- Both, as like, after k acts. -/
def Round (w0 : World) (p q k : Nat) (wr : World) : Prop :=
  ∃ s m gs, Two w0.heap.size wr p q s m ∧ Like s m gs ∧ Below w0.heap.size w0 wr ∧ s.raw.length + s.room ≤ 1000 * k ∧ s.op.length ≤ k ∧ s.fs.length ≤ k
theorem round_new (w : World) : Round w w.heap.size (w.heap.size + 1 + 1 + 1) 0 (rNewW (w.alloc (.cells #[.bool true, .slice none 0 0, .slice none 0 0, .slice none 0 0, .int .i64 0] 54))) := by
  have h1 := wr_new w true
  have hb1 : Below w.heap.size w (w.alloc (.cells #[.bool true, .slice none 0 0, .slice none 0 0, .slice none 0 0, .int .i64 0] 54)) := (Below.refl _ _).alloc (Nat.le_refl _) _
  obtain ⟨w1, hw1⟩ : ∃ w1, w1 = w.alloc (.cells #[.bool true, .slice none 0 0, .slice none 0 0, .slice none 0 0, .int .i64 0] 54) := ⟨_, rfl⟩
  have hs1 : w1.heap.size = w.heap.size + 1 := by rw [hw1]; simp
  rw [← hw1] at h1 hb1 ⊢
  have hb2 := rnew_below w1
  have h2 := rnew_rf w1
  rw [hs1] at h2
  refine ⟨_, _, _, ⟨_, _, h1.bel hb2, h2.mono (Nat.le_succ _), fun k hk hk2 => ?_⟩, like_new, hb1.trans (hb2.mono (by omega)), by simp, by simp, by simp⟩
  have : k = w.heap.size := hk
  omega
theorem Round.bel {w0 wr w' : World} {p q k : Nat} (h : Round w0 p q k wr) (hb : Below wr.heap.size wr w') : Round w0 p q k w' := by
  obtain ⟨s, m, gs, h1, h2, h3, h4⟩ := h
  exact ⟨s, m, gs, two_bel h1 hb, h2, h3.trans (hb.mono h3.size), h4⟩
theorem cell_lt {w : World} {b o : Nat} {v : Value} (h : w.cell? ⟨b, o, none⟩ = some v) : b < w.heap.size := by
  rcases Nat.lt_or_ge b w.heap.size with h' | h'
  · exact h'
  · simp [World.cell?, Array.getElem?_eq_none h'] at h

set_option maxHeartbeats 1000000 in
theorem emit_walk (w : World) {A : Option Addr} {cap : Nat} {l : List Ac} (h : Acts w A cap l) (hn : ∀ a ∈ l, a.n < 18446744073709551616) :
    Calls Try.prog 3 #[.slice A l.length cap] w fun e w' => e = .returned (.bool true) ∧ Below w.heap.size w w' := by
  have HL : Hid (∀ w, Calls Try.prog 7 #[] w fun e w' => e = .returned (.bool true) ∧ Below w.heap.size w w') := live_any
  have HLT := Lib.hid (light_any h)
  have hle := h.le
  have hmx := h.max
  obtain ⟨n, hnl⟩ : ∃ n, n = l.length := ⟨_, rfl⟩
  rw [← hnl] at hle ⊢
  have HRN := Lib.hid (round_new w)
  have H := Lib.hid h
  have HNL := Lib.hid hnl
  have HN := Lib.hid hn
  rw [← hnl] at HLT
  clear h hnl hn
  go_enter Try.func3, Try.ntmps3
  go_wp2_with (go_at_call 6; refine HLT.out.mono ?_; rintro e w' ⟨b, rfl, hb, rfl⟩; have HB := Lib.hid hb; clear hb; cases b)
  · go_wp2_with (go_at_call 7; refine (HL.out _).mono ?_; rintro e w5 ⟨rfl, hb5⟩)
    go_ret
    exact ⟨rfl, hb5⟩
  · go_wp2_with (first
      | (go_at_call 8; refine (wnew_any _).mono ?_; rintro e w0 ⟨rfl, rfl⟩)
      | (go_at_call 9; refine (rnew_any _).mono ?_; rintro e w1 ⟨rfl, hw1⟩; have HW1 := Lib.hid hw1; clear hw1))
    have hn50 := (HB.out trivial).1
    have hs300 := (HB.out trivial).2
    have HS3 := Lib.hid hs300
    clear hs300
    go_loopw [5, 6] (fun i b wr => ∃ k : Nat, k ≤ n ∧ i = .int .i64 (k : Int) ∧ Round w w.heap.size (w.heap.size + 1 + 1 + 1) k wr) (fun i _ _ => n - (intOf i).toNat)
    case atStart => exact ⟨0, Nat.zero_le _, rfl, by rw [HW1.out]; exact HRN.out⟩
    case round =>
      obtain ⟨k, hk, rfl, hrd⟩ := hrel
      have HR := Lib.hid hrd
      clear hrd
      by_cases hlt : k < n
      · have g1 : decide ((k : Int) < (n : Int)) = true := decide_eq_true (by omega)
        obtain ⟨a, ha⟩ : ∃ a, l[k]? = some a := ⟨_, List.getElem?_eq_getElem (by have := HNL.out; omega)⟩
        obtain ⟨g, off, rfl, d0, d1, d2, d3⟩ := H.out.at_ k a ha
        have hbw : Below w.heap.size w wr := by obtain ⟨_, _, _, _, _, h, _⟩ := HR.out; exact h
        have hgl := cell_lt d0
        have d0' := (hbw.cell (p := ⟨g, off + k * 4, none⟩) hgl).trans d0
        have d1' := (hbw.cell (p := ⟨g, off + k * 4 + 1, none⟩) hgl).trans d1
        have d2' := (hbw.cell (p := ⟨g, off + k * 4 + 2, none⟩) hgl).trans d2
        have d3' := (hbw.cell (p := ⟨g, off + k * 4 + 3, none⟩) hgl).trans d3
        clear d0 d1 d2 d3 hbw hgl
        have hmem : a ∈ l := List.mem_of_getElem? ha
        obtain ⟨s, m, gs, htw, hlk, hbl, hb1, hb2, hb3⟩ := HR.out
        have hBw : w.heap.size ≤ wr.drew.heap.size := hbl.size
        have HD : Hid (Calls Try.prog 10 #[.pointer (some ⟨w.heap.size, 0, none⟩), .pointer (some ⟨w.heap.size + 1 + 1 + 1, 0, none⟩), .agg #[.int .i64 a.what, .int .i64 a.num, .int .u64 (a.n : Int), .string (strOf a.s)]] wr.drew (Did w.heap.size wr.drew w.heap.size (w.heap.size + 1 + 1 + 1) s)) :=
          Lib.hid (do_any (two_bel htw (drew_below wr 1)) hlk hBw (by omega) (by omega) (by omega) a (HN.out a hmem) (HS3.out a hmem))
        have HBL := Lib.hid hbl
        have HC1 := Lib.hid hb1
        have HC2 := Lib.hid hb2
        have HC3 := Lib.hid hb3
        obtain ⟨str, hstr⟩ : ∃ str, str = strOf a.s := ⟨_, rfl⟩
        rw [← hstr] at d3' HD
        obtain ⟨an, han⟩ : ∃ an, an = a.n := ⟨_, rfl⟩
        rw [← han] at d2' HD
        clear hmem htw hlk hbl hBw hb1 hb2 hb3 hstr han ha
        go_wp2
        go_cut [43] from 19 to 43 (fun t wx => t = .bool false ∧ Round w w.heap.size (w.heap.size + 1 + 1 + 1) (k + 1) wx)
        case first =>
          go_region_with (first
            | (go_at_call 10
               refine HD.out.mono ?_
               rintro e w2 ⟨rfl, s2, m2, gs2, t2, l2, b2, e1, e2, e3⟩
               obtain ⟨L, hL⟩ : ∃ L, L = s2.raw.length + s2.room := ⟨_, rfl⟩
               obtain ⟨K, hK⟩ : ∃ K, K = s2.op.length := ⟨_, rfl⟩
               have hT := l2.total
               have hM := l2.nums
               rw [← hL] at hT
               rw [← hK] at hM
               have hL2 : L ≤ 1000000 := by have := HC1.out; omega
               obtain ⟨S2, R2, y1, y2, y3⟩ := t2
               have HLW : Hid (∀ w', Below w2.heap.size w2 w' → Calls Try.prog 11 #[.pointer (some ⟨w.heap.size, 0, none⟩)] w' fun e w'' => e = .returned (.int .i64 (L : Int)) ∧ ∃ n, w'' = w'.drewN n) := Lib.hid (fun w' hb => by rw [hL]; exact wlen_any (y1.bel hb) (by omega))
               have HLR : Hid (∀ w', Below w2.heap.size w2 w' → Calls Try.prog 12 #[.pointer (some ⟨w.heap.size + 1 + 1 + 1, 0, none⟩)] w' fun e w'' => e = .returned (.int .i64 (L : Int)) ∧ w' = w'') := Lib.hid (fun w' hb => by have := rlen_any (y2.bel hb) (by omega); rw [← hT] at this; exact this)
               have HDW : Hid (∀ w', Below w2.heap.size w2 w' → Calls Try.prog 13 #[.pointer (some ⟨w.heap.size, 0, none⟩)] w' fun e w'' => e = .returned (.int .i64 (K : Int)) ∧ w' = w'') := Lib.hid (fun w' hb => by rw [hK]; exact wdeep_any (y1.bel hb))
               have HRR : Hid (Round w w.heap.size (w.heap.size + 1 + 1 + 1) (k + 1) w2) := Lib.hid ⟨s2, m2, gs2, ⟨S2, R2, y1, y2, y3⟩, l2, HBL.out.drew.trans b2, by rw [← hL]; have := HC1.out; omega, by have := HC2.out; omega, by have := HC3.out; omega⟩
               obtain ⟨vp, vn, vs, hat⟩ := y2
               obtain ⟨An, capn, hvn, z1, z2, _, _⟩ := own_form hat.nums
               have c1 := obj_cell hat.obj 1
               rw [hvn, hM] at c1
               clear l2 b2 e1 e2 e3 hT hM hL2 y1 y3 hat hvn z1 z2 hL hK)
            | (go_at_call 11; refine (HLW.out _ ?_).mono ?_; (first | exact Below.refl _ _ | exact drew_below _ _); rintro e w3 ⟨rfl, n3, rfl⟩)
            | (go_at_call 12; refine (HLR.out _ ?_).mono ?_; (first | exact Below.refl _ _ | exact drew_below _ _); rintro e w4 ⟨rfl, rfl⟩)
            | (go_at_call 13; refine (HDW.out _ ?_).mono ?_; (first | exact Below.refl _ _ | exact drew_below _ _); rintro e w5 ⟨rfl, rfl⟩))
          all_goals
            go_wp2_with fail
            go_meet
            case rel => exact ⟨rfl, HRR.out.bel (drew_below _ _)⟩
        case rest =>
          obtain ⟨rfl, hcr⟩ := hcut
          have HCR := Lib.hid hcr
          clear hcr
          obtain ⟨s3, m3, gs3, t3, l3, b3, c31, c32, c33⟩ := HCR.out
          obtain ⟨S3, R3, y1, y2, y3⟩ := t3
          by_cases hop : s3.op = []
          · have hpb := l3.bytes hop
            have hnum : m3.nums = [] := List.eq_nil_of_length_eq_zero (by rw [l3.nums, hop]; rfl)
            obtain ⟨N3, hN3⟩ : ∃ N3, N3 = s3.raw.length := ⟨_, rfl⟩
            have HG : Hid (Calls Try.prog 14 #[.pointer (some ⟨w.heap.size, 0, none⟩)] wc fun e w' => ∃ A cap, e = .returned (.slice A N3 cap) ∧ Bs w' A cap s3.raw ∧ Below wc.heap.size wc w') := Lib.hid (by rw [hN3]; exact wbytes_any y1 hop (by omega))
            obtain ⟨vp, vn, vs, hat⟩ := y2
            obtain ⟨gp, cp, hvp, _, u3, u2, hgp⟩ := own_pos hat.row (by rw [hpb]; exact Nat.zero_lt_one)
            obtain ⟨An, cn, hvn, _, u4, _, _⟩ := own_form hat.nums
            obtain ⟨v0, hv0⟩ : ∃ v0, vs[0]? = some v0 := ⟨_, List.getElem?_eq_getElem (by have := hat.row.1; rw [hpb] at this; simp at this; omega)⟩
            obtain ⟨Aj, cj, hvj, hBj, _⟩ := hat.part 0 v0 s3.raw hv0 (by rw [hpb]; rfl)
            have k0 := obj_cell hat.obj 0
            have k1 := obj_cell hat.obj 1
            have k2 := own_cell hat.row (g := gp) (by rw [hvp]; rfl) hv0
            rw [hvp, hpb] at k0
            rw [hvn, hnum] at k1
            rw [hvj, ← hN3] at k2
            have HB3 := Lib.hid b3
            have HBJ := Lib.hid hBj
            have HN3 := Lib.hid hN3
            have HQ := Lib.hid (cell_lt k0)
            have HGP := Lib.hid hgp
            unfold maxLen at u2 u4
            clear l3 b3 c31 c32 c33 y1 y3 hop hpb hnum hN3 hat hvp hvn hv0 hvj hBj hgp u3
            go_wp2_with (first
              | (go_at_call 14
                 refine HG.out.mono ?_
                 rintro e w2 ⟨A2, cap2, rfl, hB2, hb2⟩
                 have m0 := (hb2.cell (p := ⟨w.heap.size + 1 + 1 + 1, 0, none⟩) HQ.out).trans k0
                 have m1 := (hb2.cell (p := ⟨w.heap.size + 1 + 1 + 1, 1, none⟩) HQ.out).trans k1
                 have m2 := (hb2.cell (p := ⟨gp, 0, none⟩) HGP.out).trans k2
                 have HB2 := Lib.hid hB2
                 have HBE2 := Lib.hid hb2
                 clear k0 k1 k2 hB2 hb2)
              | (go_at_call 15
                 refine (bytes_n _ _ _ _ _ _ s3.raw s3.raw _ HN3.out HN3.out HB2.out (HBJ.out.below HBE2.out (Nat.le_refl _))).mono ?_
                 rintro e w4 ⟨rfl, rfl⟩))
            go_roundw
            case rel => exact ⟨k + 1, by omega, by go_num, HCR.out.bel HBE2.out⟩
            case measure => simp [intOf]; omega
          · have HG := Lib.hid (wbytes_open y1 hop)
            obtain ⟨vp, vn, vs, hat⟩ := y2
            obtain ⟨An, cn, hvn, u3, u4, _, _⟩ := own_form hat.nums
            have k1 := obj_cell hat.obj 1
            have hK : 0 < m3.nums.length := by rw [l3.nums]; cases ho : s3.op with | nil => exact absurd ho hop | cons a l => simp
            obtain ⟨K, hKe⟩ : ∃ K, K = m3.nums.length := ⟨_, rfl⟩
            rw [hvn, ← hKe] at k1
            rw [← hKe] at hK u3
            unfold maxLen at u4
            have g2 : decide ((0 : Int) < (K : Int)) = true := decide_eq_true (by omega)
            have g3 : ((K : Int) == 0) = false := beq_false_of_ne (by omega)
            clear l3 b3 c31 c32 c33 y1 y3 hop hat hvn hKe
            go_wp2_with (go_at_call 14; refine HG.out.mono ?_; rintro e w2 ⟨rfl, rfl⟩)
            go_roundw
            case rel => exact ⟨k + 1, by omega, by go_num, HCR.out⟩
            case measure => simp [intOf]; omega
      · have g1 : decide ((k : Int) < (n : Int)) = false := decide_eq_false (by omega)
        go_wp2_with (go_at_call 7; refine (HL.out _).mono ?_; rintro e w5 ⟨rfl, hb5⟩)
        go_ret
        obtain ⟨_, _, _, _, _, hbw, _⟩ := HR.out
        exact ⟨rfl, hbw.trans (hb5.mono hbw.size)⟩
end Go.Proofs.Ytnhaeapkncnimaa
