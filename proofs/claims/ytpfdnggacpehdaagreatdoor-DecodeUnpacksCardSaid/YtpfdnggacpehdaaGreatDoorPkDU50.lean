/- Several texts in one: VdL. What each proves, and its conditions, stands at its own head. -/
import Derived.Test.YtpfdnggacpehdaaGreatDoorPkDU49
import Derived.Test.YtpfdnggacpehdaaGreatDoorPkDU35
import Derived.Shelf.Abstract
import Derived.Deep.RegionHeld3
import Derived.Laws.EntriesVeiled
import Derived.Test.YtpfdnggacpehdaaGreatDoorPkDU23
import Derived.Test.YtpfdnggacpehdaaGreatDoorPkDU24
import Derived.Test.YtpfdnggacpehdaaGreatDoorPkDU19
import Derived.Test.YtpfdnggacpehdaaGreatDoorPkDU17
import Derived.Maps.OwnOps
import Derived.Test.YtpfdnggacpehdaaGreatDoorChecked
import Derived.Deep.RegionWith
import Derived.WalkKit
import Derived.RowKitTokens
import Derived.Test.YtpfdnggacpehdaaGreatDoorPkDU31
import Derived.Test.YtpfdnggacpehdaaGreatDoorPkDU33
import Derived.Test.YtpfdnggacpehdaaGreatDoorPkDU0
import Derived.BigQuiet
import Derived.Deep.QuietTactic
import Derived.Test.YtpfdnggacpehdaaGreatDoorPkDU48
import Derived.Test.YtpfdnggacpehdaaGreatDoorPkDU16
import Derived.Test.YtpfdnggacpehdaaGreatDoorPkDU18
import Derived.Test.YtpfdnggacpehdaaGreatDoorPkDU5
import Derived.Test.YtpfdnggacpehdaaGreatDoorPkDU2
import Derived.Test.YtpfdnggacpehdaaGreatDoorPkDU3
import Derived.Test.YtpfdnggacpehdaaGreatDoorPkDU15
import Derived.IntWalk
/- Layer 20: the page's example ('live'); which trees are a message's values, the law's walk. Conditions: VdEnv; those that each theorem names. -/
namespace Go.Proofs.YtpfdnggacpehdaaGreatDoor
open Go.RowKit
set_option linter.unusedVariables false
set_option maxRecDepth 100000

def allocs (w : World) : List Obj → World
  | [] => w
  | o :: r => allocs (w.alloc o) r
theorem allocs_bel : ∀ (l : List Obj) (w : World), Below w.heap.size w (allocs w l)
  | [], w => Below.refl _ _
  | o :: r, w => vbel ((Below.refl _ w).alloc (Nat.le_refl _) o) (allocs_bel r (w.alloc o))
theorem allocs_at : ∀ (l : List Obj) (w : World) (i : Nat) (cs : Array Value) (t : TypeId), l[i]? = some (.cells cs t) → (allocs w l).heap[w.heap.size + i]? = some (.cells cs t (0, 0))
  | [], w, i, cs, t, h => by simp at h
  | o :: r, w, 0, cs, t, h => by
    simp at h
    subst h
    exact ((allocs_bel r _).block _ (by simp)).trans (heap_alloc_new w _)
  | o :: r, w, i + 1, cs, t, h => by
    have := allocs_at r (w.alloc o) i cs t (by simpa using h)
    rw [World.size_alloc] at this
    rw [show w.heap.size + (i + 1) = w.heap.size + 1 + i by omega]
    exact this
/-- A list that lies in a block of its own, whole. -/
theorem vd_block {α : Type} {k : Nat} {S : Nat → Prop} {R : World → List Value → α → Prop} {w : World} {g : Nat} {cs : Array Value} {t : TypeId} {l : List α} {f : α → List Value} (h : w.heap[g]? = some (.cells cs t (0, 0))) (hc : cs.toList = l.flatMap f) (hf : ∀ x, (f x).length = k) (hR : ∀ x ∈ l, R w (f x) x) (hS : S g) (hm : l.length ≤ maxLen) :
    Lst k S R w (some ⟨g, 0, none⟩) l.length l :=
  ⟨Nat.le_refl _, hm, (fun e => by cases e), fun j x hj => ⟨g, 0, f x, rfl, hS, hf x, hR x (List.mem_of_getElem? hj), fun i u hu => by
    have hi : i < k := by have := (List.getElem?_eq_some_iff.mp hu).1; rw [hf] at this; exact this
    rw [cell_of_row _ g (0 + j * k + i) cs t (0, 0) h, ← Array.getElem?_toList, hc, Nat.zero_add, Nat.mul_comm j k]
    exact (flat_get f k hf l j x i hj hi).trans hu⟩⟩
def vlF : Fd := ⟨[97], 1, 1, [], false, false, []⟩
def vlS : Sc := ⟨[], [⟨[77], [vlF], []⟩]⟩
def vlT (n : Nat) : Tr := .mk [⟨1, [⟨n, [], []⟩]⟩] []
theorem vdl_at {wr : World} (g b : Nat) (h1 : wr.heap[g]? = some (.cells #[.string ⟨#[97]⟩, .int .i64 1, .int .i64 1, .string ⟨#[]⟩, .bool false, .bool false, .string ⟨#[]⟩] 43 (0, 0)))
    (h2 : wr.heap[b]? = some (.cells #[.string ⟨#[77]⟩, .slice (some ⟨g, 0, none⟩) 1 1, .slice none 0 0] 59 (0, 0))) : ScAt (fun _ _ => True) wr none 0 0 (some ⟨b, 0, none⟩) 1 1 vlS where
  s_e := lst_empty _ _ _ (by decide) (fun _ => rfl)
  s_m := vd_block (l := vlS.msgs) (f := fun _ => [.string ⟨#[77]⟩, .slice (some ⟨g, 0, none⟩) 1 1, .slice none 0 0]) h2 rfl (fun _ => rfl) (fun x hx => by
    obtain rfl : x = ⟨[77], [vlF], []⟩ := by simpa [vlS] using hx
    exact ⟨_, _, _, _, rfl, vd_block (l := [vlF]) (f := fdCells) h1 rfl (fun _ => rfl) (fun _ _ => rfl) trivial (by decide), lst_empty _ _ _ (by decide) (fun _ => rfl)⟩) trivial (by decide)
  s_ne := rfl
  s_nm := rfl
theorem vl_tree {wr : World} (n g b : Nat) (h1 : wr.heap[g]? = some (.cells #[.int .u64 (n : Int), .string ⟨#[]⟩, .slice none 0 0] 65 (0, 0))) (h2 : wr.heap[b]? = some (.cells #[.int .i64 1, .slice (some ⟨g, 0, none⟩) 1 1] 68 (0, 0))) : TrAt (fun _ => True) 0 wr (some ⟨b, 0, none⟩) 1 1 none 0 0 (vlT n) where
  t_s := vd_block (l := (vlT n).slots) (f := fun (_ : Slt) => [Value.int .i64 1, Value.slice (some ⟨g, 0, none⟩) 1 1]) h2 rfl (fun _ => rfl) (fun x hx => by
    obtain rfl : x = ⟨1, [⟨n, [], []⟩]⟩ := by simpa [vlT, Tr.slots] using hx
    exact ⟨_, _, rfl, vd_block (l := ([⟨n, [], []⟩] : List Va)) (f := fun (_ : Va) => [Value.int .u64 (n : Int), Value.string ⟨#[]⟩, Value.slice none 0 0]) h1 rfl (fun _ => rfl) (fun y hy => by
      obtain rfl : y = ⟨n, [], []⟩ := by simpa using hy
      exact ⟨none, 0, rfl, lst_empty _ _ _ (by decide) (fun _ => rfl)⟩) trivial (by show 1 ≤ maxLen; decide)⟩) trivial (by show 1 ≤ maxLen; decide)
  t_r := lst_empty _ _ _ (by decide) (fun _ => rfl)
  t_ns := rfl
  t_nr := rfl
end Go.Proofs.YtpfdnggacpehdaaGreatDoor
