/- The page's examples (live) come out true; the law VarintPuts' walk: for every number of 64 bits and all bytes that can be read it returns true and leaves what was there. -/
import Derived.Test.YtgkfmnmfocdhnaaVarB
import Derived.Test.YtgkfmnmfocdhnaaVarD
import Derived.Deep.DeepMust
namespace Go.Proofs.Ytgkfmnmfocdhnaa
open Go.RowKit
open Go.Lib (uvarint)

theorem get_n (A : Option Addr) (n cap : Nat) (bs : List UInt8) (w : World) (hn : n = bs.length) (hb : Bs w A cap bs) :
    Calls Try.prog 8 #[.slice A n cap] w fun e w' => e = .returned (.tuple #[.int .u64 ((getFrom 0 0 bs).1 : Int), .int .i64 ((getFrom 0 0 bs).2 : Int)]) ∧ w = w' := by
  subst hn; exact get_any A cap bs w hb
theorem bytes_n (A A' : Option Addr) (n n' cap cap' : Nat) (bs bs' : List UInt8) (w : World) (hn : n = bs.length) (hn' : n' = bs'.length) (h : Bs w A cap bs) (h' : Bs w A' cap' bs') :
    Calls Try.prog 9 #[.slice A n cap, .slice A' n' cap'] w fun e w' => e = .returned (.bool (decide (bs = bs'))) ∧ w = w' := by
  subst hn hn'; exact bytes_any A A' cap cap' bs bs' w h h'

theorem own0 (w : World) : (w.alloc (.cells #[] 5)).ownsRow w.heap.size 5 1 (.slice (some ⟨w.heap.size, 0, none⟩) 0 0) 0 (cellsOf []) :=
  World.ownsRow_made w #[] 0 (Nat.le_refl _) (by decide) rfl

theorem put300 : uvarint 300 = [172, 2] := by
  rw [Lib.uvarint_big (by decide), Lib.uvarint_small (by decide)]; rfl
theorem get300 : getFrom 0 0 [172, 130, 0] = (300, 3) := by decide

theorem put300_any (w : World) : Calls Try.prog 7 #[.int .u64 300] w (Gives w [172, 2]) := by
  have h := put_any 300 w (by decide)
  rw [put300] at h
  exact h

set_option maxRecDepth 100000 in
theorem live_any (w : World) : Calls Try.prog 12 #[] w fun e w' => e = .returned (.bool true) ∧ Below w.heap.size w w' := by
  have hg := get_n (some ⟨w.heap.size, 0, none⟩) 3 3 [172, 130, 0] (w.alloc (.cells #[.int .u8 172, .int .u8 130, .int .u8 0] 5)) rfl (Bs.lit w _ _ [172, 130, 0] rfl (by decide))
  rw [get300] at hg
  have HG := Lib.hid hg
  clear hg
  go_enter Try.func12, Try.ntmps12
  go_wp2_with (first
    | (go_at_call 8; refine (HG.out).mono ?_; rintro e w' ⟨rfl, rfl⟩)
    | (go_at_call 7; refine (put300_any _).mono ?_; rintro e w1 ⟨A1, cap1, rfl, hB1, hb1⟩)
    | (go_at_call 9; refine (bytes_n _ _ _ _ _ _ [172, 2] [172, 2] _ rfl rfl (hB1.alloc _) (Bs.lit w1 _ _ [172, 2] rfl (by decide))).mono ?_; rintro e w' ⟨rfl, rfl⟩))
  go_ret
  refine ⟨rfl, Below.alloc ?_ ?_ _⟩
  · exact ((Below.refl _ _).alloc (Nat.le_refl _) _).trans (hb1.mono (by simp))
  · have := hb1.size; simp at this; omega

set_option maxRecDepth 100000 in
set_option maxHeartbeats 1000000 in
/-- VarintPuts. -/
theorem puts_walk (w : World) (n : Nat) (h : n < 18446744073709551616) (A : Option Addr) (cap : Nat) (rest : List UInt8) (hr : Bs w A cap rest) (h47 : rest.length ≤ 140737488351232) :
    Calls Try.prog 3 #[.int .u64 (n : Int), .slice A rest.length cap] w fun e w' => e = .returned (.bool true) ∧ Below w.heap.size w w' := by
  obtain ⟨i0, hi, hz0, hz1, hz2⟩ := info_parts info_u8
  have h10 := Lib.uvarint_length64 h
  have HGP := Lib.hid (get_put n h rest)
  obtain ⟨u, hu⟩ : ∃ u, u = uvarint n := ⟨_, rfl⟩
  have HU := Lib.hid hu
  have HP : Hid (∀ w, Calls Try.prog 7 #[.int .u64 (n : Int)] w (Gives w u)) := by show ∀ w, _; intro w; rw [hu]; exact put_any n w h
  have HR : Hid (∀ w, Calls Try.prog 10 #[.int .u64 (n : Int)] w (Gives w u)) := by show ∀ w, _; intro w; rw [hu]; exact rput_any n w h
  have HS : Hid (∀ w : World, Calls Try.prog 11 #[.int .u64 (n : Int)] w fun e w' => e = .returned (.int .i64 (u.length : Int)) ∧ w = w') := by show ∀ w : World, _; intro w; rw [hu]; exact size_any n w h
  rw [← hu] at h10
  have HG : Hid (∀ A cap w, Bs w A cap (u ++ rest) → Calls Try.prog 8 #[.slice A (u.length + rest.length) cap] w fun e w' => e = .returned (.tuple #[.int .u64 (n : Int), .int .i64 (u.length : Int)]) ∧ w = w') := by
    show ∀ A cap w, _
    intro A cap w hb
    have := get_n A (u.length + rest.length) cap (u ++ rest) w (by simp) hb
    rw [hu, HGP.out, ← hu] at this
    exact this
  clear hu
  have HB0 := Lib.hid hr
  clear hr
  go_enter Try.func3, Try.ntmps3
  go_wp2_with (first
    | (go_at_call 7; refine (HP.out _).mono ?_; rintro e w1 ⟨A1, cap1, rfl, hB1, hb1⟩; have HB1 := Lib.hid hB1; clear hB1)
    | (at_builtin; refine wpList_append_bs rfl (.tmp 11) (.tmp 12) _ rfl w1.heap.size 5 i0 Try.underlying23 hi hz0 hz1 hz2 _ 0 [] rfl (own0 w1) _ _ _ u rfl rfl (HB1.out.alloc _) (by simp; omega) (by simp) ?_; go_must (intro v2 w2 hown2 hgrow2; simp only [List.nil_append, List.length_nil, Nat.zero_add] at hown2; have hb2 : Below w1.heap.size w1 w2 := ((Below.refl _ _).alloc (Nat.le_refl _) _).grown hgrow2 (by simp) (fun k hk => ((own0 w1).lt k hk).1); have hbw2 : Below w.heap.size w w2 := hb1.trans (hb2.mono hb1.size); have hsz2 := hb2.size; clear hgrow2))
    | (at_builtin; refine wpList_append_bs rfl (.tmp 13) (.tmp 14) _ rfl w1.heap.size 5 i0 Try.underlying23 hi hz0 hz1 hz2 _ _ u rfl hown2 _ _ _ rest rfl rfl (HB0.out.below hbw2 (Nat.le_refl _)) (by omega) hsz2 ?_; go_must (intro v3 w3 hown3 hgrow3; have hb3 : Below w1.heap.size w1 w3 := hb2.grown hgrow3 hsz2 (fun k hk => (hown2.lt k hk).1); clear hgrow3 hown2; obtain ⟨hq3, A3, cap3, rfl, hB3⟩ := Bs.own hown3; clear hq3; rw [List.length_append]; have HB3 := Lib.hid hB3; clear hB3 hown3))
    | (go_at_call 8; refine (HG.out _ _ _ HB3.out).mono ?_; rintro e w' ⟨rfl, rfl⟩)
    | (go_at_call 10; refine (HR.out _).mono ?_; rintro e w4 ⟨A4, cap4, rfl, hB4, hb4⟩; have HB4 := Lib.hid hB4; clear hB4)
    | (go_at_call 9; refine (bytes_n _ _ _ _ _ _ u u _ rfl rfl (HB1.out.below (hb3.trans (hb4.mono hb3.size)) (Nat.le_refl _)) HB4.out).mono ?_; rintro e w' ⟨rfl, rfl⟩)
    | (go_at_call 11; refine (HS.out _).mono ?_; rintro e w' ⟨rfl, rfl⟩)
    | (go_at_call 12; refine (live_any _).mono ?_; rintro e w5 ⟨rfl, hb5⟩))
  go_ret
  exact ⟨rfl, ((hb1.trans (hb3.mono hb1.size)).trans (hb4.mono (Nat.le_trans hb1.size hb3.size))).trans (hb5.mono (Nat.le_trans (Nat.le_trans hb1.size hb3.size) hb4.size))⟩

end Go.Proofs.Ytgkfmnmfocdhnaa
