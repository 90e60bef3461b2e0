/- The law VarintGets' walk: for all bytes that can be read it returns true and leaves what was there. -/
import Derived.Test.YtgkfmnmfocdhnaaVarE
namespace Go.Proofs.Ytgkfmnmfocdhnaa
open Go.RowKit
open Go.Lib (uvarint)

theorem rget_n (A : Option Addr) (n cap : Nat) (bs : List UInt8) (w : World) (hn : n = bs.length) (hb : Bs w A cap bs) :
    Calls Try.prog 13 #[.slice A n cap] w fun e w' => e = .returned (.tuple #[.int .u64 ((getFrom 0 0 bs).1 : Int), .int .i64 ((getFrom 0 0 bs).2 : Int)]) ∧ w = w' := by
  subst hn; exact rget_any A cap bs w hb

set_option maxRecDepth 100000 in
set_option maxHeartbeats 1000000 in
/-- VarintGets. -/
theorem gets_walk (w : World) (A : Option Addr) (cap : Nat) (bs : List UInt8) (hr : Bs w A cap bs) (_h47 : bs.length ≤ 140737488351232) :
    Calls Try.prog 4 #[.slice A bs.length cap] w fun e w' => e = .returned (.bool true) ∧ Below w.heap.size w w' := by
  have hg := get_any A cap bs w hr
  have hr' := rget_any A cap bs w hr
  have hs := getFrom_size bs
  have hl := getFrom_le bs
  have h64 := getFrom_u64 bs
  obtain ⟨m, hm⟩ : ∃ m, m = (getFrom 0 0 bs).1 := ⟨_, rfl⟩
  obtain ⟨k, hk⟩ : ∃ k, k = (getFrom 0 0 bs).2 := ⟨_, rfl⟩
  rw [← hm, ← hk] at hg hr' hs
  rw [← hk] at hl
  rw [← hm] at h64
  have HG := Lib.hid hg
  have HR := Lib.hid hr'
  clear hg hr' hm hk
  obtain ⟨u, hu⟩ : ∃ u, u = uvarint m := ⟨_, rfl⟩
  have HP : Hid (∀ w, Calls Try.prog 7 #[.int .u64 (m : Int)] w (Gives w u)) := by show ∀ w, _; intro w; rw [hu]; exact put_any m w h64
  rw [← hu] at hs
  clear hu
  by_cases hk : k = 0
  · subst hk
    clear hs hl
    go_enter Try.func4, Try.ntmps4
    go_wp2_with (first
      | (go_at_call 8; refine HG.out.mono ?_; rintro e w' ⟨rfl, rfl⟩)
      | (go_at_call 13; refine HR.out.mono ?_; rintro e w' ⟨rfl, rfl⟩)
      | (go_at_call 12; refine (live_any _).mono ?_; rintro e w5 ⟨rfl, hb5⟩))
    go_ret
    exact ⟨rfl, hb5⟩
  · have hle := hs hk
    clear hs
    have g1 : ((k : Int) == 0) = false := by simp; omega
    have g2 : decide ((u.length : Int) ≤ (k : Int)) = true := decide_eq_true (by omega)
    go_enter Try.func4, Try.ntmps4
    go_wp2_with (first
      | (go_at_call 8; refine HG.out.mono ?_; rintro e w' ⟨rfl, rfl⟩)
      | (go_at_call 13; refine HR.out.mono ?_; rintro e w' ⟨rfl, rfl⟩)
      | (go_at_call 7; refine (HP.out _).mono ?_; rintro e w1 ⟨A1, cap1, rfl, hB1, hb1⟩; clear hB1)
      | (go_at_call 12; refine (live_any _).mono ?_; rintro e w5 ⟨rfl, hb5⟩))
    go_ret
    exact ⟨rfl, hb1.trans (hb5.mono hb1.size)⟩

end Go.Proofs.Ytgkfmnmfocdhnaa
