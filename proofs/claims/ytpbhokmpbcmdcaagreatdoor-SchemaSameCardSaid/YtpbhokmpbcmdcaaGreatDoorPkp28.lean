/- Several texts in one: SchLaw. What each proves, and its conditions, stands at its own head. -/
import Derived.Test.YtpbhokmpbcmdcaaGreatDoorPkp17
import Derived.Test.YtpbhokmpbcmdcaaGreatDoorPkp23
import Derived.Test.YtpbhokmpbcmdcaaGreatDoorPkp3
import Derived.Test.YtpbhokmpbcmdcaaGreatDoorPkp27
import Derived.Test.YtpbhokmpbcmdcaaGreatDoorPkp8
import Derived.Test.YtpbhokmpbcmdcaaGreatDoorPkp24
/- What is asked of the program's layer 15, and its laws: SchemaChecks. Conditions: those that each theorem names. -/
namespace Go.Proofs.YtpbhokmpbcmdcaaGreatDoor
open Go.RowKit
set_option linter.unusedVariables false
set_option maxRecDepth 100000

/-- What is asked. -/
structure SchCheckOk (E : World → Prop) : Prop where
  serides : ∀ w w', E w → Below w.heap.size w w' → E w'
  scheck : ∀ (S : Nat → Nat → Prop) w A n cap A2 n2 cap2 s, E w → ScAt S w A n cap A2 n2 cap2 s → ScOk s → smallT s = true → Calls Tryz.prog 9 #[.agg #[.slice A n cap, .slice A2 n2 cap2]] w fun e w' => e = .returned (.int .i64 (checkT s)) ∧ Below w.heap.size w w'

theorem snum_any (k : Int) (w : World) : Calls Tryz.prog 8 #[.int .i64 k] w fun e w' => e = .returned (.int .i64 k) ∧ w = w' := by
  go_enter Tryz.func8, Tryz.ntmps8
  go_wp2
  go_ret
  exact ⟨rfl, rfl⟩
/-- A list that lies in a block of its own, whole. -/
theorem lst_block {α : Type} {k : Nat} {S : Nat → Prop} {R : World → List Value → α → Prop} {w : World} {g : Nat} {cs : Array Value} {t : TypeId} {l : List α} {f : α → List Value} (h : w.heap[g]? = some (.cells cs t (0, 0))) (hc : cs.toList = l.flatMap f) (hf : ∀ x, (f x).length = k) (hR : ∀ x ∈ l, R w (f x) x) (hS : S g) (hm : l.length ≤ maxLen) :
    Lst k S R w (some ⟨g, 0, none⟩) l.length l :=
  ⟨Nat.le_refl _, hm, (fun e => by cases e), fun j x hj => ⟨g, 0, f x, rfl, hS, hf x, hR x (List.mem_of_getElem? hj), fun i u hu => by
    have hi : i < k := by have := (List.getElem?_eq_some_iff.mp hu).1; rw [hf] at this; exact this
    rw [cell_of_row _ g (0 + j * k + i) cs t (0, 0) h, ← Array.getElem?_toList, hc, Nat.zero_add, Nat.mul_comm j k]
    exact (flat_get f k hf l j x i hj hi).trans hu⟩⟩
def lvF : Fd := ⟨[97], 1, 15, [77], false, false, []⟩
def lvS : Sc := ⟨[], [⟨[77], [lvF], []⟩]⟩
theorem lv_check : checkT lvS = 0 := by decide +kernel
theorem lv_small : smallT lvS = true := by decide +kernel
theorem lv_none : checkT ⟨[], []⟩ = 5 := by decide +kernel
theorem lv_small0 : smallT ⟨[], []⟩ = true := by decide +kernel
theorem lv_ok : ScOk lvS := by
  unfold ScOk lvS MsOk FdOk lvF lenM Int64
  simp
theorem lv_ok0 : ScOk ⟨[], []⟩ := by
  unfold ScOk lenM
  simp
theorem lv_at {w wr : World} (g b : Nat) (h1 : wr.heap[g]? = some (.cells #[.string ⟨#[97]⟩, .int .i64 1, .int .i64 15, .string ⟨#[77]⟩, .bool false, .bool false, .string ⟨#[]⟩] 39 (0, 0)))
    (h2 : wr.heap[b]? = some (.cells #[.string ⟨#[77]⟩, .slice (some ⟨g, 0, none⟩) 1 1, .slice none 0 0] 37 (0, 0))) : ScAt (fun _ _ => True) wr none 0 0 (some ⟨b, 0, none⟩) 1 1 lvS where
  s_e := lst_empty _ _ _ (by decide) (fun _ => rfl)
  s_m := lst_block (l := lvS.msgs) (f := fun _ => [.string ⟨#[77]⟩, .slice (some ⟨g, 0, none⟩) 1 1, .slice none 0 0]) h2 rfl (fun _ => rfl) (fun x hx => by
    obtain rfl : x = ⟨[77], [lvF], []⟩ := by simpa [lvS] using hx
    exact ⟨_, _, _, _, rfl, lst_block (l := [lvF]) (f := fdCells) h1 rfl (fun _ => rfl) (fun _ _ => rfl) trivial (by decide), lst_empty _ _ _ (by decide) (fun _ => rfl)⟩) trivial (by decide)
  s_ne := rfl
  s_nm := rfl
theorem at_none (w : World) : ScAt (fun _ _ => True) w none 0 0 none 0 0 ⟨[], []⟩ := ⟨lst_empty _ _ _ (by decide) (fun _ => rfl), lst_empty _ _ _ (by decide) (fun _ => rfl), rfl, rfl⟩

set_option maxHeartbeats 8000000 in
theorem schlive_any {E : World → Prop} (ok : SchCheckOk E) (w : World) (env : E w) : Calls Tryz.prog 7 #[] w fun e w' => e = .returned (.bool true) ∧ Below w.heap.size w w' := by
  obtain ⟨w3, hw3⟩ : ∃ w3, w3 = ((w.alloc (.cells #[.string ⟨#[97]⟩, .int .i64 1, .int .i64 15, .string ⟨#[77]⟩, .bool false, .bool false, .string ⟨#[]⟩] 39)).alloc (.cells #[.string ⟨#[77]⟩, .slice (some ⟨w.heap.size, 0, none⟩) 1 1, .slice none 0 0] 37)).alloc (.cells #[.slice none 0 0, .slice (some ⟨w.heap.size + 1, 0, none⟩) 1 1] 25) := ⟨_, rfl⟩
  have hs1 : ∀ o, (w.alloc o).heap.size = w.heap.size + 1 := fun o => World.size_alloc _ _
  have hb : Below w.heap.size w w3 := by rw [hw3]; exact ((((Below.refl _ w).alloc (Nat.le_refl _) _).alloc (by simp) _).alloc (by simp; omega) _)
  have h1 : w3.heap[w.heap.size]? = some (.cells #[.string ⟨#[97]⟩, .int .i64 1, .int .i64 15, .string ⟨#[77]⟩, .bool false, .bool false, .string ⟨#[]⟩] 39 (0, 0)) := by
    rw [hw3, Below.heap_alloc _ _ _ (by simp; omega), Below.heap_alloc _ _ _ (by simp), heap_alloc_new]
  have h2 : w3.heap[w.heap.size + 1]? = some (.cells #[.string ⟨#[77]⟩, .slice (some ⟨w.heap.size, 0, none⟩) 1 1, .slice none 0 0] 37 (0, 0)) := by
    rw [hw3, Below.heap_alloc _ _ _ (by simp), ← hs1, heap_alloc_new]
  have h3 : w3.heap[w.heap.size + 2]? = some (.cells #[.slice none 0 0, .slice (some ⟨w.heap.size + 1, 0, none⟩) 1 1] 25 (0, 0)) := by
    rw [hw3, show w.heap.size + 2 = ((w.alloc (.cells #[.string ⟨#[97]⟩, .int .i64 1, .int .i64 15, .string ⟨#[77]⟩, .bool false, .bool false, .string ⟨#[]⟩] 39)).alloc (.cells #[.string ⟨#[77]⟩, .slice (some ⟨w.heap.size, 0, none⟩) 1 1, .slice none 0 0] 37)).heap.size by simp, heap_alloc_new]
  have HW3 := Lib.hid hw3
  have HB3 := Lib.hid hb
  have HC1 := Lib.hid (ok.scheck _ w3 _ _ _ _ _ _ _ (ok.serides _ _ env hb) (lv_at (w := w) _ _ h1 h2) lv_ok lv_small)
  have HC2 := Lib.hid (fun u (hbu : Below w.heap.size w u) => ok.scheck _ u _ _ _ _ _ _ _ (ok.serides _ _ env hbu) (at_none u) lv_ok0 lv_small0)
  rw [lv_check] at HC1
  rw [lv_none] at HC2
  have r0 := obj_cell h3 0
  have r1 := obj_cell h3 1
  have HR0 := Lib.hid r0
  have HR1 := Lib.hid r1
  rw [hw3] at r0 r1
  clear ok env hb h1 h2 h3 hw3 hs1
  go_enter Tryz.func7, Tryz.ntmps7
  go_wp2_with (first
    | (go_at_call 9; (with_reducible rw [← HW3.out]); refine HC1.out.mono ?_; rintro e w1 ⟨rfl, hb⟩; have HB4 := Lib.hid (HB3.out.trans (hb.mono HB3.out.size)); clear hb HC1)
    | (go_at_call 9; refine (HC2.out _ HB4.out).mono ?_; rintro e w2 ⟨rfl, hb⟩; have HB5 := Lib.hid (HB4.out.trans (hb.mono HB4.out.size)); clear hb)
    | (go_at_call 8; refine (snum_any _ _).mono ?_; rintro e wn ⟨rfl, rfl⟩))
  go_ret
  exact ⟨rfl, HB5.out⟩

end Go.Proofs.YtpbhokmpbcmdcaaGreatDoor
