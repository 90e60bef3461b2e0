/- Several texts in one: RefG. What each proves, and its conditions, stands at its own head. -/
import Derived.Test.YtpfdnggacpehdaaGreatDoorPkDU27
import Derived.Deep.RegionLaw
import Derived.Test.YtpfdnggacpehdaaGreatDoorPkDU23
import Derived.Test.YtpfdnggacpehdaaGreatDoorChecked
import Derived.Test.YtpfdnggacpehdaaGreatDoorPkDU0
import Derived.WalkKit
import Derived.OwnWalk
import Derived.RowKitTokens
import Derived.Lib.Hide
/- The document's cursor: More, Close, From. -/
namespace Go.Proofs.YtpfdnggacpehdaaGreatDoor
open Go.RowKit
set_option linter.unusedVariables false
set_option maxRecDepth 100000

theorem rmore_ref {W w : World} {p g : Nat} {bs : List UInt8} {s : St} (h : Ref W w p g bs s) :
    Calls Tryz.prog 43 #[.pointer (some ⟨p, 0, none⟩)] w fun e w' => e = .returned (.bool s.more) ∧ ∃ n, w' = w.drewN n := by
  rcases hfr : s.fr with _ | ⟨l, r⟩
  · have e1 : s.more = false := by simp [St.more, hfr]
    rw [e1]
    obtain ⟨A, cap, hB, hp⟩ := ref_none h hfr
    have c3 := obj_cell hp 3
    clear h hfr hB hp e1
    go_enter Tryz.func43, Tryz.ntmps43
    go_wp2
    go_quiet (fail)
    go_wp2
    go_ret
    exact ⟨rfl, _, rfl⟩
  · have e1 : s.more = decide (s.at_ < l) := by simp [St.more, hfr]
    rw [e1]
    obtain ⟨A, cap, c, hB, hp, hst⟩ := ref_some h hfr
    have c1 := obj_cell hp 1
    have c2 := obj_cell hp 2
    have c3 := obj_cell hp 3
    have hl := hst.last
    have hk : r.length + 1 ≤ 9223372036854775807 := by have h1 := hst.le; have h2 := hst.max; simp at h1; unfold maxLen at h2; omega
    obtain ⟨k0, hk0⟩ : ∃ k0, k0 = r.length := ⟨_, rfl⟩
    rw [← hk0] at c2 hl hk
    clear h hfr hB hp hst hk0 e1
    go_enter Tryz.func43, Tryz.ntmps43
    go_wp2
    go_quiet ((go_at_call 88; exact Calls.quiet_of (rend_cells p g k0 c l _ hk c2 hl)))
    go_wp2
    go_ret
    exact ⟨by go_num, _, rfl⟩

/-- What the document's From answers. -/
def RBegins (w : World) (A : Option Addr) (cap : Nat) (bs : List UInt8) (e : Ending) (w' : World) : Prop :=
  ∃ p g, e = .returned (.pointer (some ⟨p, 0, none⟩)) ∧ Below w.heap.size w w' ∧ p ≥ w.heap.size ∧ g ≥ w.heap.size ∧ ∀ W : World, W.heap.size ≤ w.heap.size → Below W.heap.size W w → Bs W A cap bs → Ref W w' p g bs ⟨0, [bs.length]⟩
theorem rbegins_done {w : World} {bs : List UInt8} {A : Option Addr} {cap : Nat} :
    RBegins w A cap bs (.returned (.pointer (some ⟨w.heap.size + 1, 0, none⟩))) ((w.alloc (.cells #[.int .i64 (bs.length : Int)] 3)).alloc (.cells #[.slice A bs.length cap, .int .i64 0, .slice (some ⟨w.heap.size, 0, none⟩) 1 1, .bool false] 89)) := by
  have hb2 : Below w.heap.size w ((w.alloc (.cells #[.int .i64 (bs.length : Int)] 3)).alloc (.cells #[.slice A bs.length cap, .int .i64 0, .slice (some ⟨w.heap.size, 0, none⟩) 1 1, .bool false] 89)) :=
    ((Below.refl _ _).alloc (Nat.le_refl _) _).alloc (by simp) _
  have hp := heap_alloc2_new w (.cells #[.int .i64 (bs.length : Int)] 3) (.cells #[.slice A bs.length cap, .int .i64 0, .slice (some ⟨w.heap.size, 0, none⟩) 1 1, .bool false] 89)
  have hg := heap_alloc2_old w (.cells #[.int .i64 (bs.length : Int)] 3) (.cells #[.slice A bs.length cap, .int .i64 0, .slice (some ⟨w.heap.size, 0, none⟩) 1 1, .bool false] 89)
  refine ⟨w.heap.size + 1, w.heap.size, rfl, hb2, by omega, by omega, fun W hW hWw hK => ⟨⟨by omega, hW, by omega, lt_of_block hp, lt_of_block hg, hWw.trans (hb2.mono hW), right_start bs⟩, A, cap, hK, .inr ⟨bs.length, [], 1, rfl, hp, ⟨⟨_, hg, by simp, rfl⟩, by simp, by decide⟩⟩⟩⟩
theorem rfrom_any (A : Option Addr) (n cap : Nat) (bs : List UInt8) (w : World) (hn : n = bs.length) (hb : Bs w A cap bs) :
    Calls Tryz.prog 42 #[.slice A n cap] w (RBegins w A cap bs) := by
  subst hn
  clear hb
  go_enter Tryz.func42, Tryz.ntmps42
  go_wp2
  go_ret
  exact rbegins_done
end Go.Proofs.YtpfdnggacpehdaaGreatDoor
