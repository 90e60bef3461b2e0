/- Several texts in one: Clone. What each proves, and its conditions, stands at its own head. -/
import Derived.Test.YtpfdnggacpehdaaGreatDoorPkDU0
import Derived.Lib.Hide
import Derived.Deep.DeepMust
/- slices.Clone of bytes: what it answers. -/
namespace Go.Proofs.YtpfdnggacpehdaaGreatDoor
open Go.RowKit
set_option linter.unusedVariables false
set_option maxRecDepth 100000

theorem clone_any (A : Option Addr) (cap : Nat) (bs : List UInt8) (w : World) (hb : Bs w A cap bs) (hlen : bs.length ≤ 140737488351232) :
    Calls Tryz.prog 64 #[.slice A bs.length cap] w (Gives w bs) := by
  obtain ⟨i0, hi, hz0, hz1, hz2⟩ := info_parts info_u8
  rcases A with _ | a
  · have h0 := hb.nil rfl
    have hle := hb.le
    have hbs : bs = [] := List.eq_nil_of_length_eq_zero (by omega)
    subst hbs h0
    have he : ∀ w : World, (binOp .eql 26 (.slice none 0 0) (.slice none 0 0)).run Tryz.prog w = .ok (.bool true) w := fun _ => rfl
    go_enter Tryz.func64, Tryz.ntmps64
    go_wp2
    go_ret
    exact ⟨none, 0, rfl, bs_nil _, Below.refl _ _⟩
  · have he : ∀ w : World, (binOp .eql 26 (.slice (some a) bs.length cap) (.slice none 0 0)).run Tryz.prog w = .ok (.bool false) w := fun _ => rfl
    have HB := Lib.hid hb
    clear hb
    go_enter Tryz.func64, Tryz.ntmps64
    go_wp2_with (at_builtin; refine wpList_append_bs rfl (.tmp 5) (.tmp 6) _ rfl w.heap.size 5 i0 Tryz.underlying26 hi hz0 hz1 hz2 _ 0 [] rfl (own0 w) _ _ _ bs rfl rfl (HB.out.alloc _) (by simp; omega) (by simp) ?_; go_must (intro v2 w2 hown2 hgrow2))
    go_ret
    exact gives_own hown2 (((Below.refl _ _).alloc (Nat.le_refl _) _).grown hgrow2 (by simp) (fun k e => by cases e; exact Nat.le_refl _))
theorem clone_n (A : Option Addr) (n cap : Nat) (bs : List UInt8) (w : World) (hn : n = bs.length) (hb : Bs w A cap bs) (hlen : bs.length ≤ 140737488351232) :
    Calls Tryz.prog 64 #[.slice A n cap] w (Gives w bs) := by subst hn; exact clone_any A cap bs w hb hlen
end Go.Proofs.YtpfdnggacpehdaaGreatDoor
