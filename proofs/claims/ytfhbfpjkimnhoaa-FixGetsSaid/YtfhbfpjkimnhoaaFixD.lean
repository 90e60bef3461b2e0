/- The page's example (live) comes out true; the laws FixPuts, FixGets, FixHalves: for every input that can be read each returns true and leaves what was there. -/
import Derived.Test.YtfhbfpjkimnhoaaFixB
import Derived.Test.YtfhbfpjkimnhoaaFixC
import Derived.Test.YtfhbfpjkimnhoaaBytesEq
import Derived.Deep.DeepMust
namespace Go.Proofs.Ytfhbfpjkimnhoaa
open Go.RowKit
set_option linter.unusedVariables false
set_option maxRecDepth 100000

theorem put258_any (w : World) : Calls Try.prog 6 #[.int .u32 258] w (Gives w [2, 1, 0, 0]) := put4_any 258 w (by decide)
theorem live_any (w : World) : Calls Try.prog 12 #[] w fun e w' => e = .returned (.bool true) ∧ Below w.heap.size w w' := by
  go_enter Try.func12, Try.ntmps12
  go_wp2_with (first
    | (go_at_call 6; refine (put258_any _).mono ?_; rintro e w1 ⟨A1, cap1, rfl, hB1, hb1⟩)
    | (go_at_call 10; refine (bytes_n _ _ _ _ _ _ [2, 1, 0, 0] [2, 1, 0, 0] _ rfl rfl (hB1.alloc _) (Bs.lit w1 _ _ [2, 1, 0, 0] rfl (by decide))).mono ?_; rintro e w' ⟨rfl, rfl⟩))
  go_ret
  exact ⟨rfl, hb1.alloc hb1.size _⟩


theorem gets_walk (w : World) (A : Option Addr) (cap : Nat) (bs : List UInt8) (hr : Bs w A cap bs) (h47 : bs.length ≤ 140737488351232) :
    Calls Try.prog 4 #[.slice A bs.length cap] w fun e w' => e = .returned (.bool true) ∧ Below w.heap.size w w' := by
  obtain ⟨x, hx⟩ : ∃ x, x = getN 4 bs := ⟨_, rfl⟩
  obtain ⟨y, hy⟩ : ∃ y, y = getN 8 bs := ⟨_, rfl⟩
  obtain ⟨p, hp⟩ : ∃ p, p = isN 4 bs := ⟨_, rfl⟩
  obtain ⟨q, hq⟩ : ∃ q, q = isN 8 bs := ⟨_, rfl⟩
  obtain ⟨N, hN⟩ : ∃ N, N = bs.length := ⟨_, rfl⟩
  have hx4 : x < 4294967296 := by rw [hx]; exact getN_lt 4 bs
  have H4 : Hid (∀ w, Bs w A cap bs → Calls Try.prog 8 #[.slice A N cap] w fun e w' => e = .returned (.tuple #[.int .u32 (x : Int), .bool p]) ∧ Below w.heap.size w w') := by
    show ∀ w, _; intro w hb; rw [hx, hp]; exact get4_n A N cap bs w hN hb
  have H8 : Hid (∀ w, Bs w A cap bs → Calls Try.prog 9 #[.slice A N cap] w fun e w' => e = .returned (.tuple #[.int .u64 (y : Int), .bool q]) ∧ Below w.heap.size w w') := by
    show ∀ w, _; intro w hb; rw [hy, hq]; exact get8_n A N cap bs w hN hb
  have R4 : Hid (∀ w, Bs w A cap bs → Calls Try.prog 13 #[.slice A N cap, .int .i64 4] w fun e w' => e = .returned (.tuple #[.int .u64 (x : Int), .bool p]) ∧ w = w') := by
    show ∀ w, _; intro w hb; rw [hx, hp]; exact rget_n A N cap 4 bs w hN hb (by decide) (by decide)
  have R8 : Hid (∀ w, Bs w A cap bs → Calls Try.prog 13 #[.slice A N cap, .int .i64 8] w fun e w' => e = .returned (.tuple #[.int .u64 (y : Int), .bool q]) ∧ w = w') := by
    show ∀ w, _; intro w hb; rw [hy, hq]; exact rget_n A N cap 8 bs w hN hb (by decide) (by decide)
  have HB := Lib.hid hr
  rw [← hN] at h47 ⊢
  clear hx hy hp hq hN hr
  go_enter Try.func4, Try.ntmps4
  go_wp2_with (first
    | (go_at_call 8; refine (H4.out _ HB.out).mono ?_; rintro e w1 ⟨rfl, hb1⟩; have HB1 := Lib.hid (HB.out.below hb1 (Nat.le_refl _)))
    | (go_at_call 9; refine (H8.out _ HB1.out).mono ?_; rintro e w2 ⟨rfl, hb2⟩; have HB2 := Lib.hid (HB1.out.below hb2 (Nat.le_refl _)))
    | (go_at_call 13; (with_reducible refine (R4.out _ HB2.out).mono ?_); rintro e w3 ⟨rfl, rfl⟩)
    | (go_at_call 13; (with_reducible refine (R8.out _ HB2.out).mono ?_); rintro e w3 ⟨rfl, rfl⟩)
    | (go_at_call 12; refine (live_any _).mono ?_; rintro e w5 ⟨rfl, hb5⟩))
  go_ret
  exact ⟨rfl, bel_trans (bel_trans hb1 hb2) hb5⟩

set_option maxHeartbeats 1000000 in
theorem puts_walk (w : World) (n : Nat) (h : n < 18446744073709551616) (A : Option Addr) (cap : Nat) (rest : List UInt8) (hr : Bs w A cap rest) (h47 : rest.length ≤ 140737488351232) :
    Calls Try.prog 3 #[.int .u64 (n : Int), .slice A rest.length cap] w fun e w' => e = .returned (.bool true) ∧ Below w.heap.size w w' := by
  obtain ⟨i0, hi, hz0, hz1, hz2⟩ := info_parts info_u8
  obtain ⟨m, hm⟩ : ∃ m, m = n % 4294967296 := ⟨_, rfl⟩
  have e0 : (n : Int) % 4294967296 = (m : Int) := by omega
  have hm2 : m < 4294967296 := by omega
  obtain ⟨u, hu⟩ : ∃ u, u = le 4 n := ⟨_, rfl⟩
  obtain ⟨v, hv⟩ : ∃ v, v = le 8 n := ⟨_, rfl⟩
  have hu' : u = le 4 m := by rw [hu]; exact le_mod 4 n m (by omega)
  have hul : u.length ≤ 8 := by rw [hu, le_length 4 n]; decide
  have hvl : v.length ≤ 8 := by rw [hv, le_length 8 n]; decide
  have H4 : Hid (∀ w, Calls Try.prog 6 #[.int .u32 (m : Int)] w (Gives w u)) := by show ∀ w, _; intro w; rw [hu']; exact put4_any m w hm2
  have H8 : Hid (∀ w, Calls Try.prog 7 #[.int .u64 (n : Int)] w (Gives w v)) := by show ∀ w, _; intro w; rw [hv]; exact put8_any n w h
  have R4 : Hid (∀ w, Calls Try.prog 11 #[.int .u64 (n : Int), .int .i64 4] w (Gives w u)) := by show ∀ w, _; intro w; rw [hu]; exact rput_any n 4 w h (by decide)
  have R8 : Hid (∀ w, Calls Try.prog 11 #[.int .u64 (n : Int), .int .i64 8] w (Gives w v)) := by show ∀ w, _; intro w; rw [hv]; exact rput_any n 8 w h (by decide)
  have G4 : Hid (∀ A cap w, Bs w A cap (u ++ rest) → Calls Try.prog 8 #[.slice A (u.length + rest.length) cap] w fun e w' => e = .returned (.tuple #[.int .u32 (m : Int), .bool true]) ∧ Below w.heap.size w w') := by
    show ∀ A cap w, _
    intro A cap w hb
    have := get4_n A (u.length + rest.length) cap (u ++ rest) w (by simp) hb
    rw [hu', getN_put, isN_put, Nat.mod_eq_of_lt (show m < 256 ^ 4 from hm2), ← hu'] at this
    exact this
  have G8 : Hid (∀ A cap w, Bs w A cap (v ++ rest) → Calls Try.prog 9 #[.slice A (v.length + rest.length) cap] w fun e w' => e = .returned (.tuple #[.int .u64 (n : Int), .bool true]) ∧ Below w.heap.size w w') := by
    show ∀ A cap w, _
    intro A cap w hb
    have := get8_n A (v.length + rest.length) cap (v ++ rest) w (by simp) hb
    rw [hv, getN_put, isN_put, Nat.mod_eq_of_lt (show n < 256 ^ 8 from h), ← hv] at this
    exact this
  clear hu hv hu' hm
  have HR0 := Lib.hid hr
  clear hr
  go_enter Try.func3, Try.ntmps3
  go_wp2_with (first
    | (go_at_call 6; refine (H4.out _).mono ?_; rintro e w1 ⟨A1, cap1, rfl, hB1, hb1⟩; have HB1 := Lib.hid hB1; have HR1 := Lib.hid (HR0.out.below hb1 (Nat.le_refl _)); clear hB1)
    | (go_at_call 7; refine (H8.out _).mono ?_; rintro e w2 ⟨A2, cap2, rfl, hB2, hb2⟩; have HB2 := Lib.hid hB2; have HB12 := Lib.hid (HB1.out.below hb2 (Nat.le_refl _)); have HR2 := Lib.hid (HR1.out.below hb2 (Nat.le_refl _)); clear hB2)
    | (at_builtin; refine wpList_append_bs rfl (.tmp 17) (.tmp 18) _ rfl w2.heap.size 5 i0 Try.underlying23 hi hz0 hz1 hz2 _ 0 [] rfl (own0 w2) _ _ _ u rfl rfl (HB12.out.alloc _) (by simp; omega) (by simp) ?_; go_must (intro v3 w3 hown3 hgrow3; simp only [List.nil_append, List.length_nil, Nat.zero_add] at hown3; have hb3 : Below w2.heap.size w2 w3 := ((Below.refl _ _).alloc (Nat.le_refl _) _).grown hgrow3 (by simp) (fun k hk => ((own0 w2).lt k hk).1); have hsz3 := hb3.size; clear hgrow3))
    | (at_builtin; refine wpList_append_bs rfl (.tmp 19) (.tmp 20) _ rfl w2.heap.size 5 i0 Try.underlying23 hi hz0 hz1 hz2 _ _ u rfl hown3 _ _ _ rest rfl rfl (HR2.out.below hb3 (Nat.le_refl _)) (by omega) hsz3 ?_; go_must (intro v4 w4 hown4 hgrow4; have hb4 : Below w2.heap.size w2 w4 := hb3.grown hgrow4 hsz3 (fun k hk => (hown3.lt k hk).1); clear hgrow4 hown3; obtain ⟨hq4, A4, cap4, rfl, hB4⟩ := Bs.own hown4; clear hq4; rw [List.length_append]; have HB4 := Lib.hid hB4; clear hB4 hown4; have HB14 := Lib.hid (HB12.out.below hb4 (Nat.le_refl _)); have HB24 := Lib.hid (HB2.out.below hb4 (Nat.le_refl _)); have HR4 := Lib.hid (HR2.out.below hb4 (Nat.le_refl _))))
    | (go_at_call 8; refine (G4.out _ _ _ HB4.out).mono ?_; rintro e w5 ⟨rfl, hb5⟩; have HB15 := Lib.hid (HB14.out.below hb5 (Nat.le_refl _)); have HB25 := Lib.hid (HB24.out.below hb5 (Nat.le_refl _)); have HR5 := Lib.hid (HR4.out.below hb5 (Nat.le_refl _)))
    | (at_builtin; refine wpList_append_bs rfl (.tmp 26) (.tmp 27) _ rfl w5.heap.size 5 i0 Try.underlying23 hi hz0 hz1 hz2 _ 0 [] rfl (own0 w5) _ _ _ v rfl rfl (HB25.out.alloc _) (by simp; omega) (by simp) ?_; go_must (intro v6 w6 hown6 hgrow6; simp only [List.nil_append, List.length_nil, Nat.zero_add] at hown6; have hb6 : Below w5.heap.size w5 w6 := ((Below.refl _ _).alloc (Nat.le_refl _) _).grown hgrow6 (by simp) (fun k hk => ((own0 w5).lt k hk).1); have hsz6 := hb6.size; clear hgrow6))
    | (at_builtin; refine wpList_append_bs rfl (.tmp 28) (.tmp 29) _ rfl w5.heap.size 5 i0 Try.underlying23 hi hz0 hz1 hz2 _ _ v rfl hown6 _ _ _ rest rfl rfl (HR5.out.below hb6 (Nat.le_refl _)) (by omega) hsz6 ?_; go_must (intro v7 w7 hown7 hgrow7; have hb7 : Below w5.heap.size w5 w7 := hb6.grown hgrow7 hsz6 (fun k hk => (hown6.lt k hk).1); clear hgrow7 hown6; obtain ⟨hq7, A7, cap7, rfl, hB7⟩ := Bs.own hown7; clear hq7; rw [List.length_append]; have HB7 := Lib.hid hB7; clear hB7 hown7; have HB17 := Lib.hid (HB15.out.below hb7 (Nat.le_refl _)); have HB27 := Lib.hid (HB25.out.below hb7 (Nat.le_refl _))))
    | (go_at_call 9; refine (G8.out _ _ _ HB7.out).mono ?_; rintro e w8 ⟨rfl, hb8⟩; have HB18 := Lib.hid (HB17.out.below hb8 (Nat.le_refl _)); have HB28 := Lib.hid (HB27.out.below hb8 (Nat.le_refl _)))
    | (go_at_call 11; (with_reducible refine (R4.out _).mono ?_); rintro e w9 ⟨A9, cap9, rfl, hB9, hb9⟩; have HB9 := Lib.hid hB9; clear hB9; have HB19 := Lib.hid (HB18.out.below hb9 (Nat.le_refl _)); have HB29 := Lib.hid (HB28.out.below hb9 (Nat.le_refl _)))
    | (go_at_call 11; (with_reducible refine (R8.out _).mono ?_); rintro e w10 ⟨A10, cap10, rfl, hB10, hb10⟩; have HB10 := Lib.hid hB10; clear hB10; have HB210 := Lib.hid (HB29.out.below hb10 (Nat.le_refl _)))
    | (go_at_call 10; refine (bytes_n _ _ _ _ _ _ v v _ rfl rfl HB210.out HB10.out).mono ?_; rintro e w' ⟨rfl, rfl⟩)
    | (go_at_call 10; refine (bytes_n _ _ _ _ _ _ u u _ rfl rfl HB19.out HB9.out).mono ?_; rintro e w' ⟨rfl, rfl⟩)
    | (go_at_call 12; refine (live_any _).mono ?_; rintro e w11 ⟨rfl, hb11⟩))
  go_ret
  exact ⟨rfl, bel_trans (bel_trans (bel_trans (bel_trans (bel_trans (bel_trans (bel_trans (bel_trans hb1 hb2) hb4) hb5) hb7) hb8) hb9) hb10) hb11⟩

theorem or_halves (l h : Nat) (hl : l < 4294967296) (hh : h < 4294967296) : bits .or .u64 ((h : Int) * 4294967296) (l : Int) = ((h * 4294967296 + l : Nat) : Int) := by
  rw [bits_join .u64 64 (by decide) wraps_u64 32 _ _ (by omega) (by omega) (by omega) (by omega) (by omega) (by omega)]
  omega
set_option maxHeartbeats 1000000 in
theorem halves_walk (w : World) (a : Int) (ha : 0 ≤ a ∧ a < 4294967296) (b : Int) (hb : 0 ≤ b ∧ b < 4294967296) :
    Calls Try.prog 5 #[.int .u32 a, .int .u32 b] w fun e w' => e = .returned (.bool true) ∧ Below w.heap.size w w' := by
  obtain ⟨i0, hi, hz0, hz1, hz2⟩ := info_parts info_u8
  obtain ⟨l, rfl⟩ := Int.eq_ofNat_of_zero_le ha.1
  obtain ⟨h, rfl⟩ := Int.eq_ofNat_of_zero_le hb.1
  have hl : l < 4294967296 := by omega
  have hh : h < 4294967296 := by omega
  clear ha hb
  obtain ⟨u, hu⟩ : ∃ u, u = le 4 l := ⟨_, rfl⟩
  obtain ⟨v, hv⟩ : ∃ v, v = le 4 h := ⟨_, rfl⟩
  have hul : u.length ≤ 8 := by rw [hu, le_length 4 l]; decide
  have hvl : v.length ≤ 8 := by rw [hv, le_length 4 h]; decide
  have HO := Lib.hid (or_halves l h hl hh)
  have H8 : Hid (∀ w, Calls Try.prog 7 #[.int .u64 ((h * 4294967296 + l : Nat) : Int)] w (Gives w (u ++ v))) := by show ∀ w, _; intro w; rw [hu, hv, ← le_halves l h hl]; exact put8_any _ w (by omega)
  have HL : Hid (∀ w, Calls Try.prog 6 #[.int .u32 (l : Int)] w (Gives w u)) := by show ∀ w, _; intro w; rw [hu]; exact put4_any l w hl
  have HH : Hid (∀ w, Calls Try.prog 6 #[.int .u32 (h : Int)] w (Gives w v)) := by show ∀ w, _; intro w; rw [hv]; exact put4_any h w hh
  clear hu hv
  go_enter Try.func5, Try.ntmps5
  go_wp2_with (first
    | (go_at_call 7; rw [HO.out]; refine (H8.out _).mono ?_; rintro e w1 ⟨A1, cap1, rfl, hB1, hb1⟩; have HB1 := Lib.hid hB1; clear hB1)
    | (go_at_call 6; (with_reducible refine (HL.out _).mono ?_); rintro e w2 ⟨A2, cap2, rfl, hB2, hb2⟩; have HB2 := Lib.hid hB2; clear hB2; have hbw2 : Below w1.heap.size w1 w2 := ((Below.refl _ _).alloc (Nat.le_refl _) _).trans (hb2.mono (by simp)); have hown2 := own_below (own0 w1) hb2; have hsz2 := hbw2.size)
    | (at_builtin; refine wpList_append_bs rfl (.tmp 12) (.tmp 14) _ rfl w1.heap.size 5 i0 Try.underlying23 hi hz0 hz1 hz2 _ 0 [] rfl hown2 _ _ _ u rfl rfl HB2.out (by simp; omega) hsz2 ?_; go_must (intro v3 w3 hown3 hgrow3; simp only [List.nil_append, List.length_nil, Nat.zero_add] at hown3; have hb3 : Below w1.heap.size w1 w3 := hbw2.grown hgrow3 hsz2 (fun k hk => (hown2.lt k hk).1); have hsz3 := hb3.size; clear hgrow3 hown2))
    | (go_at_call 6; (with_reducible refine (HH.out _).mono ?_); rintro e w4 ⟨A4, cap4, rfl, hB4, hb4⟩; have HB4 := Lib.hid hB4; clear hB4; have hbw4 : Below w1.heap.size w1 w4 := hb3.trans (hb4.mono hsz3); have hown4 := own_below hown3 hb4; have hsz4 := hbw4.size; clear hown3)
    | (at_builtin; refine wpList_append_bs rfl (.tmp 15) (.tmp 17) _ rfl w1.heap.size 5 i0 Try.underlying23 hi hz0 hz1 hz2 _ _ u rfl hown4 _ _ _ v rfl rfl HB4.out (by omega) hsz4 ?_; go_must (intro v5 w5 hown5 hgrow5; have hb5 : Below w1.heap.size w1 w5 := hbw4.grown hgrow5 hsz4 (fun k hk => (hown4.lt k hk).1); clear hgrow5 hown4; obtain ⟨hq5, A5, cap5, rfl, hB5⟩ := Bs.own hown5; clear hq5; have HB5 := Lib.hid hB5; clear hB5 hown5; have HB15 := Lib.hid (HB1.out.below hb5 (Nat.le_refl _))))
    | (go_at_call 10; refine (bytes_n _ _ _ _ _ _ (u ++ v) (u ++ v) _ (by simp) (by simp) HB15.out HB5.out).mono ?_; rintro e w' ⟨rfl, rfl⟩)
    | (go_at_call 12; refine (live_any _).mono ?_; rintro e w11 ⟨rfl, hb11⟩))
  go_ret
  exact ⟨rfl, bel_trans (bel_trans hb1 hb5) hb11⟩
end Go.Proofs.Ytfhbfpjkimnhoaa
