/- EmitNil. -/
import Derived.Test.YtnhaeapkncnimaaEmLive
import Derived.Test.YtnhaeapkncnimaaInts
namespace Go.Proofs.Ytnhaeapkncnimaa
open Go.RowKit
open Go.Lib (uvarint)
set_option linter.unusedVariables false
set_option maxRecDepth 100000

/-- A writer that can't be written to, and what it tells. -/
structure Idle (P : Option Addr) (w : World) : Prop where
  off : Off P w
  len : ∀ w', Below w.heap.size w w' → Calls Try.prog 11 #[.pointer P] w' fun e w'' => e = .returned (.int .i64 0) ∧ Below w'.heap.size w' w''
  deep : ∀ w', Below w.heap.size w w' → Calls Try.prog 13 #[.pointer P] w' fun e w'' => e = .returned (.int .i64 0) ∧ w' = w''
  bytes : ∀ w', Below w.heap.size w w' → Calls Try.prog 14 #[.pointer P] w' fun e w'' => (∃ A cap, e = .returned (.slice A 0 cap)) ∧ Below w'.heap.size w' w''
  close : ∀ w', Below w.heap.size w w' → Calls Try.prog 18 #[.pointer P] w' (No w')
theorem idle_nil (w : World) : Idle none w :=
  ⟨off_nil w, fun w' _ => (len_nil w').mono fun _ _ ⟨he, hw⟩ => ⟨he, hw ▸ Below.refl _ _⟩, fun w' _ => deep_nil w', fun w' _ => (wbytes_nil w').mono fun _ _ ⟨he, hw⟩ => ⟨⟨none, 0, he⟩, hw ▸ Below.refl _ _⟩, fun w' _ => (wclose_nil w').mono fun _ _ ⟨he, hw⟩ => ⟨he, hw ▸ Below.refl _ _⟩⟩
theorem idle_unmade {B p : Nat} {S : Nat → Prop} {w : World} (h : Wr B w p S false ⟨[], [], [], 0⟩) : Idle (some ⟨p, 0, none⟩) w :=
  ⟨off_unmade h, fun w' hb => (wlen_any (h.bel hb) (by decide)).mono fun _ _ ⟨he, n, hw⟩ => ⟨he, hw ▸ drew_below w' n⟩, fun w' hb => wdeep_any (h.bel hb), fun w' hb => (wbytes_any (h.bel hb) rfl (by decide)).mono fun _ _ ⟨A, cap, he, _, hb⟩ => ⟨⟨A, cap, he⟩, hb⟩,
    fun w' hb => (wclose_no2 (h.bel hb) rfl).mono fun _ _ ⟨he, hw⟩ => ⟨he, hw ▸ Below.refl _ _⟩⟩

set_option maxHeartbeats 1000000 in
theorem nil_walk (w : World) (a : Int) (ha : -9223372036854775808 ≤ a ∧ a < 9223372036854775808) (n : Nat) (hn : n < 18446744073709551616) (t : List UInt8) (ht : t.length ≤ 140737488351232) :
    Calls Try.prog 5 #[.int .i64 a, .int .u64 (n : Int), .string (strOf t)] w fun e w' => e = .returned (.bool true) ∧ Below w.heap.size w w' := by
  have HC := run_bytes t
  have HL : Hid (∀ w, Calls Try.prog 7 #[] w fun e w' => e = .returned (.bool true) ∧ Below w.heap.size w w') := live_any
  obtain ⟨n4, hn4⟩ : ∃ n4, n4 = n % 4294967296 := ⟨_, rfl⟩
  have hn4l : n4 < 4294967296 := by omega
  have hw4 : IntKind.u32.wrap (n : Int) = (n4 : Int) := by rw [hn4, IntKind.wrap_u32]; omega
  have hw4' : (n : Int) % 4294967296 = (n4 : Int) := by omega
  obtain ⟨N, hN⟩ : ∃ N, N = t.length := ⟨_, rfl⟩
  rw [← hN] at ht HC
  have HN := Lib.hid hN
  clear hn4 hN
  go_enter Try.func5, Try.ntmps5
  go_wp2
  go_loopw [7] (fun x wr => ∃ k : Nat, k ≤ 2 ∧ x = .int .i64 (k : Int) ∧ Below w.heap.size w wr) (fun x _ => 2 - (intOf x).toNat)
  case atStart => exact ⟨0, by omega, rfl, Below.refl _ _⟩
  case round =>
    obtain ⟨k, hk, rfl, hbel⟩ := hrel
    have HBE := Lib.hid hbel
    clear hbel
    obtain rfl | rfl | rfl : k = 0 ∨ k = 1 ∨ k = 2 := by omega
    · have HI := Lib.hid (idle_nil wr)
      have b0 : Below wr.heap.size wr wr := Below.refl _ _
      go_wp2_with (first
        | (go_at_call 24; refine (varint_off (HI.out.off.bel b0) a n hn).mono ?_; rintro e w1 ⟨rfl, hb⟩; have b1 := b0.trans (hb.mono b0.size); clear hb)
        | (go_at_call 25; refine (fixed4_off (HI.out.off.bel b1) a n4 hn4l).mono ?_; rintro e w2 ⟨rfl, hb⟩; have b2 := b1.trans (hb.mono b1.size); clear hb)
        | (go_at_call 26; refine (fixed8_off (HI.out.off.bel b2) a n hn).mono ?_; rintro e w3 ⟨rfl, hb⟩; have b3 := b2.trans (hb.mono b2.size); clear hb)
        | (go_at_call 17; refine (text_off (HI.out.off.bel b3) a t (by rw [← HN.out]; exact ht)).mono ?_; rintro e w4 ⟨rfl, hb⟩; have b4 := b3.trans (hb.mono b3.size); clear hb)
        | (go_at_call 16; refine (open_off (HI.out.off.bel b4) a).mono ?_; rintro e w5 ⟨rfl, hb⟩; have b5 := b4.trans (hb.mono b4.size); clear hb)
        | (go_at_call 18; refine (HI.out.close _ b5).mono ?_; rintro e w6 ⟨rfl, hb⟩; have b6 := b5.trans (hb.mono b5.size); have b7 := b6.trans ((bytes_below w6 t).mono b6.size); have b8 := b7.alloc b7.size (.cells #[.slice (some ⟨w6.heap.size, 0, none⟩) N (grownCap w6 N 0 5)] 38); clear hb)
        | (go_at_call 27; refine (plain_off (HI.out.off.bel b8) _ _ _).mono ?_; rintro e w9 ⟨rfl, hb⟩; have b9 := b8.trans (hb.mono b8.size); clear hb)
        | (go_at_call 11; refine (HI.out.len _ b9).mono ?_; rintro e w10 ⟨rfl, hb⟩; have b10 := b9.trans (hb.mono b9.size); clear hb)
        | (go_at_call 13; refine (HI.out.deep _ b10).mono ?_; rintro e w11 ⟨rfl, rfl⟩)
        | (go_at_call 14; refine (HI.out.bytes _ b10).mono ?_; rintro e w12 ⟨⟨A12, cap12, rfl⟩, hb⟩; have b12 := b10.trans (hb.mono b10.size); clear hb))
      go_roundw
      case rel => exact ⟨1, by omega, rfl, HBE.out.trans (b12.mono HBE.out.size)⟩
      case measure => simp [intOf]
    · have HI := Lib.hid (idle_unmade (wr_new wr false))
      obtain ⟨wz, hwz⟩ : ∃ wz, wz = wr.alloc (.cells #[.bool false, .slice none 0 0, .slice none 0 0, .slice none 0 0, .int .i64 0] 54) := ⟨_, rfl⟩
      have HBZ : Hid (Below w.heap.size w wz) := by rw [hwz]; exact HBE.out.alloc HBE.out.size _
      rw [← hwz] at HI
      have HWZ := Lib.hid hwz
      clear hwz
      have b0 : Below wz.heap.size wz wz := Below.refl _ _
      go_wp2_with (first
        | (go_at_call 24; rw [← HWZ.out]; refine (varint_off (HI.out.off.bel b0) a n hn).mono ?_; rintro e w1 ⟨rfl, hb⟩; have b1 := b0.trans (hb.mono b0.size); clear hb)
        | (go_at_call 25; refine (fixed4_off (HI.out.off.bel b1) a n4 hn4l).mono ?_; rintro e w2 ⟨rfl, hb⟩; have b2 := b1.trans (hb.mono b1.size); clear hb)
        | (go_at_call 26; refine (fixed8_off (HI.out.off.bel b2) a n hn).mono ?_; rintro e w3 ⟨rfl, hb⟩; have b3 := b2.trans (hb.mono b2.size); clear hb)
        | (go_at_call 17; refine (text_off (HI.out.off.bel b3) a t (by rw [← HN.out]; exact ht)).mono ?_; rintro e w4 ⟨rfl, hb⟩; have b4 := b3.trans (hb.mono b3.size); clear hb)
        | (go_at_call 16; refine (open_off (HI.out.off.bel b4) a).mono ?_; rintro e w5 ⟨rfl, hb⟩; have b5 := b4.trans (hb.mono b4.size); clear hb)
        | (go_at_call 18; refine (HI.out.close _ b5).mono ?_; rintro e w6 ⟨rfl, hb⟩; have b6 := b5.trans (hb.mono b5.size); have b7 := b6.trans ((bytes_below w6 t).mono b6.size); have b8 := b7.alloc b7.size (.cells #[.slice (some ⟨w6.heap.size, 0, none⟩) N (grownCap w6 N 0 5)] 38); clear hb)
        | (go_at_call 27; refine (plain_off (HI.out.off.bel b8) _ _ _).mono ?_; rintro e w9 ⟨rfl, hb⟩; have b9 := b8.trans (hb.mono b8.size); clear hb)
        | (go_at_call 11; refine (HI.out.len _ b9).mono ?_; rintro e w10 ⟨rfl, hb⟩; have b10 := b9.trans (hb.mono b9.size); clear hb)
        | (go_at_call 13; refine (HI.out.deep _ b10).mono ?_; rintro e w11 ⟨rfl, rfl⟩)
        | (go_at_call 14; refine (HI.out.bytes _ b10).mono ?_; rintro e w12 ⟨⟨A12, cap12, rfl⟩, hb⟩; have b12 := b10.trans (hb.mono b10.size); clear hb))
      go_roundw
      case rel => exact ⟨2, by omega, rfl, HBZ.out.trans (b12.mono HBZ.out.size)⟩
      case measure => simp [intOf]
    · go_wp2_with (go_at_call 7; refine (HL.out _).mono ?_; rintro e w5 ⟨rfl, hb5⟩)
      go_ret
      exact ⟨rfl, HBE.out.trans (hb5.mono HBE.out.size)⟩
end Go.Proofs.Ytnhaeapkncnimaa
