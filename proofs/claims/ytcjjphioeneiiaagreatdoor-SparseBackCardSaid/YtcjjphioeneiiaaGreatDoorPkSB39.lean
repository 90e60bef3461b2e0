/- Several texts in one: StD, StE. What each proves, and its conditions, stands at its own head. -/
import Derived.Test.YtcjjphioeneiiaaGreatDoorPkSB33
import Derived.Test.YtcjjphioeneiiaaGreatDoorPkSB38
import Derived.Test.YtcjjphioeneiiaaGreatDoorPkSB3
import Derived.Test.YtcjjphioeneiiaaGreatDoorPkSB16
import Derived.Sort.OwnSortedInts
/- The landed layer 18: its four sorts, of fewer than 20 things: a row of the call's own is sorted in place. Conditions: those that each theorem names. -/
namespace Go.Proofs.YtcjjphioeneiiaaGreatDoor
open Go.RowKit Go.Sort Go.Shelf
set_option linter.unusedVariables false
set_option maxRecDepth 100000

theorem srt_len {α : Type} (gt : α → α → Bool) (l : List α) : (sortT gt l).length = l.length := by have := sort_take_len gt l l.length (Nat.le_refl _); rwa [List.take_length] at this
theorem cmpI_neg (a b : Int) : decide (cmpI a b < 0) = decide (a < b) := by
 unfold cmpI
 by_cases h1 : a < b
 ·rw [if_pos h1]; simp [h1]
 ·rw [if_neg h1]
  split <;> simp [h1]
theorem cmpS_neg (a b : List UInt8) : decide (cmpS a b < 0) = ahead a b := by
 rcases cmpS_ways a b with ⟨h1, h2⟩ | ⟨h1, _, h2⟩ | ⟨h1, _, h2⟩ <;> rw [h1, h2] <;> rfl

theorem rc_vl {w : World} {A : Option Addr} {n cap : Nat} {R : World → Prop} (hn : n < 20)
 (hc : ∀ pb, pb = w.heap.size → Calls Tryz.prog 227 #[.slice A n cap, .int .i64 0, .int .i64 (n : Int), .func (.func 93) #[] #[.pointer (some ⟨pb, 0, none⟩)]] (w.alloc (.cells #[.func (.func 42) #[] #[]] 74)) fun e w' => e = .returned (.tuple #[]) ∧ R w') :
 Calls Tryz.prog 41 #[.slice A n cap, .func (.func 42) #[] #[]] w fun e w' => e = .returned (.tuple #[]) ∧ R w' := by
 have h1 : ¬ (20 : Int) ≤ (n : Int) := by omega
 have h2 : ¬ (20 : Int) < (n : Int) := by omega
 have hs : ∀ pb, pb = w.heap.size → Calls Tryz.prog 158 #[.slice A n cap, .int .i64 (n : Int), .func (.func 93) #[] #[.pointer (some ⟨pb, 0, none⟩)]] (w.alloc (.cells #[.func (.func 42) #[] #[]] 74)) fun e w' => e = .returned (.tuple #[]) ∧ R w' := by
  intro pb hpb
  have HC := Lib.hid (hc pb hpb)
  clear hc hpb
  go_enter Tryz.func158, Tryz.ntmps158
  go_wp2
  refine wp_loop_rounds 1 ?_
  rw [rounds_succ]
  go_wp2_with (go_at_call 227; refine HC.out.mono ?_; rintro e w1 ⟨rfl, hR⟩)
  refine wp_loop_rounds 1 ?_
  rw [rounds_succ]
  go_wp2
  all_goals first | (exfalso; omega) | (go_end0; exact ⟨rfl, hR⟩)
 have ht : ∀ pb, pb = w.heap.size → Calls Tryz.prog 92 #[.slice A n cap, .func (.func 93) #[] #[.pointer (some ⟨pb, 0, none⟩)]] (w.alloc (.cells #[.func (.func 42) #[] #[]] 74)) fun e w' => e = .returned (.tuple #[]) ∧ R w' := by
  intro pb hpb
  have HC := Lib.hid (hs pb hpb)
  clear hc hs hpb
  go_enter Tryz.func92, Tryz.ntmps92
  go_wp2_with (go_at_call 158; refine HC.out.mono ?_; rintro e w1 ⟨rfl, hR⟩)
  go_end0
  exact ⟨rfl, hR⟩
 have HC := Lib.hid (ht _ rfl)
 have hmf : ∀ (fn : Fn) (first cap : Array Value) (w : World), (Instr.makeFunc fn first cap).run Tryz.prog w = .ok (.func fn first cap) w := fun _ _ _ _ => rfl
 clear hc hs ht
 go_enter Tryz.func41, Tryz.ntmps41
 go_wp2_with (go_at_call 92; refine HC.out.mono ?_; rintro e w1 ⟨rfl, hR⟩)
 go_end0
 exact ⟨rfl, hR⟩

theorem rc_fd {w : World} {A : Option Addr} {n cap : Nat} {R : World → Prop} (hn : n < 20)
 (hc : ∀ pb, pb = w.heap.size → Calls Tryz.prog 229 #[.slice A n cap, .int .i64 0, .int .i64 (n : Int), .func (.func 96) #[] #[.pointer (some ⟨pb, 0, none⟩)]] (w.alloc (.cells #[.func (.func 44) #[] #[]] 76)) fun e w' => e = .returned (.tuple #[]) ∧ R w') :
 Calls Tryz.prog 43 #[.slice A n cap, .func (.func 44) #[] #[]] w fun e w' => e = .returned (.tuple #[]) ∧ R w' := by
 have h1 : ¬ (20 : Int) ≤ (n : Int) := by omega
 have h2 : ¬ (20 : Int) < (n : Int) := by omega
 have hs : ∀ pb, pb = w.heap.size → Calls Tryz.prog 160 #[.slice A n cap, .int .i64 (n : Int), .func (.func 96) #[] #[.pointer (some ⟨pb, 0, none⟩)]] (w.alloc (.cells #[.func (.func 44) #[] #[]] 76)) fun e w' => e = .returned (.tuple #[]) ∧ R w' := by
  intro pb hpb
  have HC := Lib.hid (hc pb hpb)
  clear hc hpb
  go_enter Tryz.func160, Tryz.ntmps160
  go_wp2
  refine wp_loop_rounds 1 ?_
  rw [rounds_succ]
  go_wp2_with (go_at_call 229; refine HC.out.mono ?_; rintro e w1 ⟨rfl, hR⟩)
  refine wp_loop_rounds 1 ?_
  rw [rounds_succ]
  go_wp2
  all_goals first | (exfalso; omega) | (go_end0; exact ⟨rfl, hR⟩)
 have ht : ∀ pb, pb = w.heap.size → Calls Tryz.prog 95 #[.slice A n cap, .func (.func 96) #[] #[.pointer (some ⟨pb, 0, none⟩)]] (w.alloc (.cells #[.func (.func 44) #[] #[]] 76)) fun e w' => e = .returned (.tuple #[]) ∧ R w' := by
  intro pb hpb
  have HC := Lib.hid (hs pb hpb)
  clear hc hs hpb
  go_enter Tryz.func95, Tryz.ntmps95
  go_wp2_with (go_at_call 160; refine HC.out.mono ?_; rintro e w1 ⟨rfl, hR⟩)
  go_end0
  exact ⟨rfl, hR⟩
 have HC := Lib.hid (ht _ rfl)
 have hmf : ∀ (fn : Fn) (first cap : Array Value) (w : World), (Instr.makeFunc fn first cap).run Tryz.prog w = .ok (.func fn first cap) w := fun _ _ _ _ => rfl
 clear hc hs ht
 go_enter Tryz.func43, Tryz.ntmps43
 go_wp2_with (go_at_call 95; refine HC.out.mono ?_; rintro e w1 ⟨rfl, hR⟩)
 go_end0
 exact ⟨rfl, hR⟩

theorem rc_en {w : World} {A : Option Addr} {n cap : Nat} {R : World → Prop} (hn : n < 20)
 (hc : ∀ pb, pb = w.heap.size → Calls Tryz.prog 223 #[.slice A n cap, .int .i64 0, .int .i64 (n : Int), .func (.func 88) #[] #[.pointer (some ⟨pb, 0, none⟩)]] (w.alloc (.cells #[.func (.func 38) #[] #[]] 44)) fun e w' => e = .returned (.tuple #[]) ∧ R w') :
 Calls Tryz.prog 37 #[.slice A n cap, .func (.func 38) #[] #[]] w fun e w' => e = .returned (.tuple #[]) ∧ R w' := by
 have h1 : ¬ (20 : Int) ≤ (n : Int) := by omega
 have h2 : ¬ (20 : Int) < (n : Int) := by omega
 have hs : ∀ pb, pb = w.heap.size → Calls Tryz.prog 155 #[.slice A n cap, .int .i64 (n : Int), .func (.func 88) #[] #[.pointer (some ⟨pb, 0, none⟩)]] (w.alloc (.cells #[.func (.func 38) #[] #[]] 44)) fun e w' => e = .returned (.tuple #[]) ∧ R w' := by
  intro pb hpb
  have HC := Lib.hid (hc pb hpb)
  clear hc hpb
  go_enter Tryz.func155, Tryz.ntmps155
  go_wp2
  refine wp_loop_rounds 1 ?_
  rw [rounds_succ]
  go_wp2_with (go_at_call 223; refine HC.out.mono ?_; rintro e w1 ⟨rfl, hR⟩)
  refine wp_loop_rounds 1 ?_
  rw [rounds_succ]
  go_wp2
  all_goals first | (exfalso; omega) | (go_end0; exact ⟨rfl, hR⟩)
 have ht : ∀ pb, pb = w.heap.size → Calls Tryz.prog 87 #[.slice A n cap, .func (.func 88) #[] #[.pointer (some ⟨pb, 0, none⟩)]] (w.alloc (.cells #[.func (.func 38) #[] #[]] 44)) fun e w' => e = .returned (.tuple #[]) ∧ R w' := by
  intro pb hpb
  have HC := Lib.hid (hs pb hpb)
  clear hc hs hpb
  go_enter Tryz.func87, Tryz.ntmps87
  go_wp2_with (go_at_call 155; refine HC.out.mono ?_; rintro e w1 ⟨rfl, hR⟩)
  go_end0
  exact ⟨rfl, hR⟩
 have HC := Lib.hid (ht _ rfl)
 have hmf : ∀ (fn : Fn) (first cap : Array Value) (w : World), (Instr.makeFunc fn first cap).run Tryz.prog w = .ok (.func fn first cap) w := fun _ _ _ _ => rfl
 clear hc hs ht
 go_enter Tryz.func37, Tryz.ntmps37
 go_wp2_with (go_at_call 87; refine HC.out.mono ?_; rintro e w1 ⟨rfl, hR⟩)
 go_end0
 exact ⟨rfl, hR⟩

theorem rc_ms {w : World} {A : Option Addr} {n cap : Nat} {R : World → Prop} (hn : n < 20)
 (hc : ∀ pb, pb = w.heap.size → Calls Tryz.prog 225 #[.slice A n cap, .int .i64 0, .int .i64 (n : Int), .func (.func 91) #[] #[.pointer (some ⟨pb, 0, none⟩)]] (w.alloc (.cells #[.func (.func 40) #[] #[]] 39)) fun e w' => e = .returned (.tuple #[]) ∧ R w') :
 Calls Tryz.prog 39 #[.slice A n cap, .func (.func 40) #[] #[]] w fun e w' => e = .returned (.tuple #[]) ∧ R w' := by
 have h1 : ¬ (20 : Int) ≤ (n : Int) := by omega
 have h2 : ¬ (20 : Int) < (n : Int) := by omega
 have hs : ∀ pb, pb = w.heap.size → Calls Tryz.prog 157 #[.slice A n cap, .int .i64 (n : Int), .func (.func 91) #[] #[.pointer (some ⟨pb, 0, none⟩)]] (w.alloc (.cells #[.func (.func 40) #[] #[]] 39)) fun e w' => e = .returned (.tuple #[]) ∧ R w' := by
  intro pb hpb
  have HC := Lib.hid (hc pb hpb)
  clear hc hpb
  go_enter Tryz.func157, Tryz.ntmps157
  go_wp2
  refine wp_loop_rounds 1 ?_
  rw [rounds_succ]
  go_wp2_with (go_at_call 225; refine HC.out.mono ?_; rintro e w1 ⟨rfl, hR⟩)
  refine wp_loop_rounds 1 ?_
  rw [rounds_succ]
  go_wp2
  all_goals first | (exfalso; omega) | (go_end0; exact ⟨rfl, hR⟩)
 have ht : ∀ pb, pb = w.heap.size → Calls Tryz.prog 90 #[.slice A n cap, .func (.func 91) #[] #[.pointer (some ⟨pb, 0, none⟩)]] (w.alloc (.cells #[.func (.func 40) #[] #[]] 39)) fun e w' => e = .returned (.tuple #[]) ∧ R w' := by
  intro pb hpb
  have HC := Lib.hid (hs pb hpb)
  clear hc hs hpb
  go_enter Tryz.func90, Tryz.ntmps90
  go_wp2_with (go_at_call 157; refine HC.out.mono ?_; rintro e w1 ⟨rfl, hR⟩)
  go_end0
  exact ⟨rfl, hR⟩
 have HC := Lib.hid (ht _ rfl)
 have hmf : ∀ (fn : Fn) (first cap : Array Value) (w : World), (Instr.makeFunc fn first cap).run Tryz.prog w = .ok (.func fn first cap) w := fun _ _ _ _ => rfl
 clear hc hs ht
 go_enter Tryz.func39, Tryz.ntmps39
 go_wp2_with (go_at_call 90; refine HC.out.mono ?_; rintro e w1 ⟨rfl, hR⟩)
 go_end0
 exact ⟨rfl, hR⟩

theorem i0_vl (A : Option Addr) (cap : Nat) (fv : Value) (w : World) : Calls Tryz.prog 227 #[.slice A 0 cap, .int .i64 0, .int .i64 0, fv] w fun e w' => e = .returned (.tuple #[]) ∧ w' = w := by
 go_enter Tryz.func227, Tryz.ntmps227
 go_wp2
 refine wp_loop_rounds 1 ?_
 rw [rounds_succ]
 go_wp2
 go_end0
 exact ⟨rfl, rfl⟩
theorem srt0_vl (A : Option Addr) (cap : Nat) (w : World) : Calls Tryz.prog 41 #[.slice A 0 cap, .func (.func 42) #[] #[]] w fun e w' => e = .returned (.tuple #[]) ∧ Below w.heap.size w w' :=
 rc_vl (n := 0) (by decide) (fun pb _ => (i0_vl A cap _ _).mono fun _ _ h => ⟨h.1, by rw [h.2]; exact (Below.refl _ w).alloc (Nat.le_refl _) _⟩)
theorem ltOf_vl : (fun y x => ltOf cf_vl x y) = gtN Vl.num := funext fun y => funext fun x => cmpI_neg _ _
theorem srt_vl {w : World} {base g N cap a cap2 n : Nat} {L : List Vl} (h : w.ownsRow base 67 2 (.slice (some ⟨g, 0, none⟩) N cap) N (L.flatMap vlCells)) (ha : a ≤ L.length) (hn : n = L.length - a) (hlt : n < 20) :
 Calls Tryz.prog 41 #[.slice (some ⟨g, a * 2, none⟩) n cap2, .func (.func 42) #[] #[]] w fun e w' => e = .returned (.tuple #[]) ∧
  (w'.ownsRow base 67 2 (.slice (some ⟨g, 0, none⟩) N cap) N ((L.take a ++ sortT (gtN Vl.num) (L.drop a)).flatMap vlCells) ∧ w.grownBy w' (some g)) := by
 have hg : g < w.heap.size := (h.lt g rfl).2
 have hb := (Below.refl _ w).alloc (Nat.le_refl _) (.cells #[.func (.func 42) #[] #[]] 74)
 have h2 := own_below h hb
 obtain rfl : n = (L.drop a).toArray.size := by simp [hn]
 refine rc_vl hlt (fun pb hpb => ?_)
 refine (ins_vl (d := (L.drop a).toArray) (b := (L.drop a).toArray.size) (a := 0) (by rw [hpb]; exact obj_cell (heap_alloc_new w _) 0) (by omega) (holds_row h2 (fun _ => rfl) a ha) (by rw [World.size_alloc]; omega) (Nat.zero_le _) (Nat.le_refl _) (by omega)).mono ?_
 rintro e w' ⟨rfl, m, os, rfl⟩
 rw [ins_list, ltOf_vl]
 have hgr := only_sortK (enc := vlCells) (k := 2) (w.alloc (.cells #[.func (.func 42) #[] #[]] 74)) g (a * 2) m (sortT (gtN Vl.num) (L.drop a)).toArray os
 refine ⟨rfl, sorted_row h2 (fun _ => rfl) a ha (by rw [srt_len]; simp), ⟨hgr.os, hgr.tape, hgr.output, Nat.le_trans hb.size hgr.size, fun q hq hne => (hgr.block q (Nat.lt_of_lt_of_le hq hb.size) hne).trans (hb.block q hq)⟩⟩

theorem i0_fd (A : Option Addr) (cap : Nat) (fv : Value) (w : World) : Calls Tryz.prog 229 #[.slice A 0 cap, .int .i64 0, .int .i64 0, fv] w fun e w' => e = .returned (.tuple #[]) ∧ w' = w := by
 go_enter Tryz.func229, Tryz.ntmps229
 go_wp2
 refine wp_loop_rounds 1 ?_
 rw [rounds_succ]
 go_wp2
 go_end0
 exact ⟨rfl, rfl⟩
theorem srt0_fd (A : Option Addr) (cap : Nat) (w : World) : Calls Tryz.prog 43 #[.slice A 0 cap, .func (.func 44) #[] #[]] w fun e w' => e = .returned (.tuple #[]) ∧ Below w.heap.size w w' :=
 rc_fd (n := 0) (by decide) (fun pb _ => (i0_fd A cap _ _).mono fun _ _ h => ⟨h.1, by rw [h.2]; exact (Below.refl _ w).alloc (Nat.le_refl _) _⟩)
theorem ltOf_fd : (fun y x => ltOf cf_fd x y) = gtN Fd.num := funext fun y => funext fun x => cmpI_neg _ _
theorem srt_fd {w : World} {base g N cap a cap2 n : Nat} {L : List Fd} (h : w.ownsRow base 70 7 (.slice (some ⟨g, 0, none⟩) N cap) N (L.flatMap fdCells)) (ha : a ≤ L.length) (hn : n = L.length - a) (hlt : n < 20) :
 Calls Tryz.prog 43 #[.slice (some ⟨g, a * 7, none⟩) n cap2, .func (.func 44) #[] #[]] w fun e w' => e = .returned (.tuple #[]) ∧
  (w'.ownsRow base 70 7 (.slice (some ⟨g, 0, none⟩) N cap) N ((L.take a ++ sortT (gtN Fd.num) (L.drop a)).flatMap fdCells) ∧ w.grownBy w' (some g)) := by
 have hg : g < w.heap.size := (h.lt g rfl).2
 have hb := (Below.refl _ w).alloc (Nat.le_refl _) (.cells #[.func (.func 44) #[] #[]] 76)
 have h2 := own_below h hb
 obtain rfl : n = (L.drop a).toArray.size := by simp [hn]
 refine rc_fd hlt (fun pb hpb => ?_)
 refine (ins_fd (d := (L.drop a).toArray) (b := (L.drop a).toArray.size) (a := 0) (by rw [hpb]; exact obj_cell (heap_alloc_new w _) 0) (by omega) (holds_row h2 (fun _ => rfl) a ha) (by rw [World.size_alloc]; omega) (Nat.zero_le _) (Nat.le_refl _) (by omega)).mono ?_
 rintro e w' ⟨rfl, m, os, rfl⟩
 rw [ins_list, ltOf_fd]
 have hgr := only_sortK (enc := fdCells) (k := 7) (w.alloc (.cells #[.func (.func 44) #[] #[]] 76)) g (a * 7) m (sortT (gtN Fd.num) (L.drop a)).toArray os
 refine ⟨rfl, sorted_row h2 (fun _ => rfl) a ha (by rw [srt_len]; simp), ⟨hgr.os, hgr.tape, hgr.output, Nat.le_trans hb.size hgr.size, fun q hq hne => (hgr.block q (Nat.lt_of_lt_of_le hq hb.size) hne).trans (hb.block q hq)⟩⟩

theorem i0_en (A : Option Addr) (cap : Nat) (fv : Value) (w : World) : Calls Tryz.prog 223 #[.slice A 0 cap, .int .i64 0, .int .i64 0, fv] w fun e w' => e = .returned (.tuple #[]) ∧ w' = w := by
 go_enter Tryz.func223, Tryz.ntmps223
 go_wp2
 refine wp_loop_rounds 1 ?_
 rw [rounds_succ]
 go_wp2
 go_end0
 exact ⟨rfl, rfl⟩
theorem srt0_en (A : Option Addr) (cap : Nat) (w : World) : Calls Tryz.prog 37 #[.slice A 0 cap, .func (.func 38) #[] #[]] w fun e w' => e = .returned (.tuple #[]) ∧ Below w.heap.size w w' :=
 rc_en (n := 0) (by decide) (fun pb _ => (i0_en A cap _ _).mono fun _ _ h => ⟨h.1, by rw [h.2]; exact (Below.refl _ w).alloc (Nat.le_refl _) _⟩)
theorem ltOf_en : (fun y x => ltOf cf_en x y) = gtS (fun x : CE => x.ce_e.name) := funext fun y => funext fun x => cmpS_neg _ _
theorem srt_en {w : World} {base g N cap a cap2 n : Nat} {L : List CE} (h : w.ownsRow base 47 2 (.slice (some ⟨g, 0, none⟩) N cap) N (L.flatMap ceCells)) (ha : a ≤ L.length) (hn : n = L.length - a) (hlt : n < 20) :
 Calls Tryz.prog 37 #[.slice (some ⟨g, a * 2, none⟩) n cap2, .func (.func 38) #[] #[]] w fun e w' => e = .returned (.tuple #[]) ∧
  (w'.ownsRow base 47 2 (.slice (some ⟨g, 0, none⟩) N cap) N ((L.take a ++ sortT (gtS (fun x : CE => x.ce_e.name)) (L.drop a)).flatMap ceCells) ∧ w.grownBy w' (some g)) := by
 have hg : g < w.heap.size := (h.lt g rfl).2
 have hb := (Below.refl _ w).alloc (Nat.le_refl _) (.cells #[.func (.func 38) #[] #[]] 44)
 have h2 := own_below h hb
 obtain rfl : n = (L.drop a).toArray.size := by simp [hn]
 refine rc_en hlt (fun pb hpb => ?_)
 refine (ins_en (d := (L.drop a).toArray) (b := (L.drop a).toArray.size) (a := 0) (by rw [hpb]; exact obj_cell (heap_alloc_new w _) 0) (by omega) (holds_row h2 (fun _ => rfl) a ha) (by rw [World.size_alloc]; omega) (Nat.zero_le _) (Nat.le_refl _) (by omega)).mono ?_
 rintro e w' ⟨rfl, m, os, rfl⟩
 rw [ins_list, ltOf_en]
 have hgr := only_sortK (enc := ceCells) (k := 2) (w.alloc (.cells #[.func (.func 38) #[] #[]] 44)) g (a * 2) m (sortT (gtS (fun x : CE => x.ce_e.name)) (L.drop a)).toArray os
 refine ⟨rfl, sorted_row h2 (fun _ => rfl) a ha (by rw [srt_len]; simp), ⟨hgr.os, hgr.tape, hgr.output, Nat.le_trans hb.size hgr.size, fun q hq hne => (hgr.block q (Nat.lt_of_lt_of_le hq hb.size) hne).trans (hb.block q hq)⟩⟩

theorem i0_ms (A : Option Addr) (cap : Nat) (fv : Value) (w : World) : Calls Tryz.prog 225 #[.slice A 0 cap, .int .i64 0, .int .i64 0, fv] w fun e w' => e = .returned (.tuple #[]) ∧ w' = w := by
 go_enter Tryz.func225, Tryz.ntmps225
 go_wp2
 refine wp_loop_rounds 1 ?_
 rw [rounds_succ]
 go_wp2
 go_end0
 exact ⟨rfl, rfl⟩
theorem srt0_ms (A : Option Addr) (cap : Nat) (w : World) : Calls Tryz.prog 39 #[.slice A 0 cap, .func (.func 40) #[] #[]] w fun e w' => e = .returned (.tuple #[]) ∧ Below w.heap.size w w' :=
 rc_ms (n := 0) (by decide) (fun pb _ => (i0_ms A cap _ _).mono fun _ _ h => ⟨h.1, by rw [h.2]; exact (Below.refl _ w).alloc (Nat.le_refl _) _⟩)
theorem ltOf_ms : (fun y x => ltOf cf_ms x y) = gtS (fun x : CM => x.cm_m.name) := funext fun y => funext fun x => cmpS_neg _ _
theorem srt_ms {w : World} {base g N cap a cap2 n : Nat} {L : List CM} (h : w.ownsRow base 43 3 (.slice (some ⟨g, 0, none⟩) N cap) N (L.flatMap cmCells)) (ha : a ≤ L.length) (hn : n = L.length - a) (hlt : n < 20) :
 Calls Tryz.prog 39 #[.slice (some ⟨g, a * 3, none⟩) n cap2, .func (.func 40) #[] #[]] w fun e w' => e = .returned (.tuple #[]) ∧
  (w'.ownsRow base 43 3 (.slice (some ⟨g, 0, none⟩) N cap) N ((L.take a ++ sortT (gtS (fun x : CM => x.cm_m.name)) (L.drop a)).flatMap cmCells) ∧ w.grownBy w' (some g)) := by
 have hg : g < w.heap.size := (h.lt g rfl).2
 have hb := (Below.refl _ w).alloc (Nat.le_refl _) (.cells #[.func (.func 40) #[] #[]] 39)
 have h2 := own_below h hb
 obtain rfl : n = (L.drop a).toArray.size := by simp [hn]
 refine rc_ms hlt (fun pb hpb => ?_)
 refine (ins_ms (d := (L.drop a).toArray) (b := (L.drop a).toArray.size) (a := 0) (by rw [hpb]; exact obj_cell (heap_alloc_new w _) 0) (by omega) (holds_row h2 (fun _ => rfl) a ha) (by rw [World.size_alloc]; omega) (Nat.zero_le _) (Nat.le_refl _) (by omega)).mono ?_
 rintro e w' ⟨rfl, m, os, rfl⟩
 rw [ins_list, ltOf_ms]
 have hgr := only_sortK (enc := cmCells) (k := 3) (w.alloc (.cells #[.func (.func 40) #[] #[]] 39)) g (a * 3) m (sortT (gtS (fun x : CM => x.cm_m.name)) (L.drop a)).toArray os
 refine ⟨rfl, sorted_row h2 (fun _ => rfl) a ha (by rw [srt_len]; simp), ⟨hgr.os, hgr.tape, hgr.output, Nat.le_trans hb.size hgr.size, fun q hq hne => (hgr.block q (Nat.lt_of_lt_of_le hq hb.size) hne).trans (hb.block q hq)⟩⟩
end Go.Proofs.YtcjjphioeneiiaaGreatDoor


/- A row of numbers of the call's own, sorted by the library. Conditions: those that each theorem names. -/
namespace Go.Proofs.YtcjjphioeneiiaaGreatDoor
open Go.RowKit Go.Sort
set_option linter.unusedVariables false
set_option maxRecDepth 100000

theorem back_says {α : Type} (g : α → Bool) (out : List α) : ∀ k, k ≤ out.length → backT g out k ≤ k ∧ (∀ i y, backT g out k ≤ i → i < k → out[i]? = some y → g y = true) ∧ (∀ y, 0 < backT g out k → out[backT g out k - 1]? = some y → g y = false)
 | 0, _ => ⟨Nat.le_refl _, fun i y h1 h2 => by omega, fun y h => absurd h (by simp [backT])⟩
 | k + 1, hk => by
   obtain ⟨h1, h2, h3⟩ := back_says g out k (by omega)
   obtain ⟨y, hy⟩ : ∃ y, out[k]? = some y := ⟨_, List.getElem?_eq_getElem (by omega)⟩
   rw [backT, hy]
   dsimp only
   cases hg : g y with
   | true =>
     rw [if_pos rfl]
     refine ⟨by omega, fun i z a b c => ?_, h3⟩
     by_cases e : i = k
     ·subst e; rw [hy] at c; cases c; exact hg
     ·exact h2 i z a (by omega) c
   | false =>
     rw [if_neg (by decide)]
     refine ⟨Nat.le_refl _, fun i z a b => by omega, fun z _ c => ?_⟩
     rw [Nat.add_sub_cancel, hy] at c
     cases c
     exact hg
theorem ins_pair {out : List Int} {x : Int} (h : out.Pairwise (· ≤ ·)) : (insT (gtN id) out x).Pairwise (· ≤ ·) ∧ (insT (gtN id) out x).Perm (x :: out) := by
 obtain ⟨h1, h2, h3⟩ := back_says (fun y => gtN id y x) out out.length (Nat.le_refl _)
 unfold insT
 obtain ⟨p, hp⟩ : ∃ p, p = backT (fun y => gtN id y x) out out.length := ⟨_, rfl⟩
 rw [← hp] at h1 h2 h3 ⊢
 have hq := List.pairwise_iff_getElem.mp h
 have hlo : ∀ a ∈ out.take p, a ≤ x := fun a ha => by
  obtain ⟨i, hi⟩ := List.getElem?_of_mem ha
  have hip : i < p := by
   rw [List.getElem?_take] at hi
   split at hi
   ·assumption
   ·cases hi
  rw [List.getElem?_take_of_lt hip] at hi
  obtain ⟨hil, e⟩ := List.getElem?_eq_some_iff.mp hi
  have hpl : p - 1 < out.length := by omega
  have hz := h3 out[p - 1] (by omega) (List.getElem?_eq_getElem hpl)
  have hle : out[i] ≤ out[p - 1] := by
   rcases Nat.lt_or_ge i (p - 1) with hlt | hge
   ·exact hq i (p - 1) hil hpl hlt
   ·have : i = p - 1 := by omega
    subst this
    exact Int.le_refl _
  unfold gtN at hz
  simp at hz
  rw [e] at hle
  omega
 have hhi : ∀ b ∈ out.drop p, x ≤ b := fun b hb => by
  obtain ⟨i, hi⟩ := List.getElem?_of_mem hb
  rw [List.getElem?_drop] at hi
  have := h2 (p + i) b (by omega) (List.getElem?_eq_some_iff.mp hi).1 hi
  unfold gtN at this
  simp at this
  omega
 refine ⟨?_, ?_⟩
 ·rw [List.pairwise_append]
  refine ⟨h.sublist (List.take_sublist _ _), List.pairwise_cons.mpr ⟨hhi, h.sublist (List.drop_sublist _ _)⟩, fun a ha b hb => ?_⟩
  rcases List.mem_cons.mp hb with rfl | hb
  ·exact hlo a ha
  ·exact Int.le_trans (hlo a ha) (hhi b hb)
 ·have := List.perm_middle (a := x) (l₁ := out.take p) (l₂ := out.drop p)
  rwa [List.take_append_drop] at this
theorem sort_ints_eq (l : List Int) : (l.mergeSort fun x y => decide (x ≤ y)) = sortT (gtN id) l := by
 have hfold : ∀ (l acc : List Int), acc.Pairwise (· ≤ ·) → (l.foldl (insT (gtN id)) acc).Pairwise (· ≤ ·) ∧ (l.foldl (insT (gtN id)) acc).Perm (acc ++ l) := by
  intro l
  induction l with
  | nil => intro acc h; exact ⟨h, by simp⟩
  | cons x r ih =>
    intro acc h
    obtain ⟨h1, h2⟩ := ins_pair (x := x) h
    obtain ⟨h3, h4⟩ := ih _ h1
    refine ⟨h3, h4.trans ((h2.append_right r).trans ?_)⟩
    exact (List.perm_middle (a := x) (l₁ := acc) (l₂ := r)).symm
 obtain ⟨s1, s2⟩ := hfold l [] List.Pairwise.nil
 have t1 : (l.mergeSort fun x y => decide (x ≤ y)).Pairwise (· ≤ ·) := (List.pairwise_mergeSort (le := fun x y => decide (x ≤ y)) (fun a b c h1 h2 => by simp at *; omega) (fun a b => by simp; omega) l).imp (by intro a b h; simpa using h)
 exact List.Perm.eq_of_pairwise (fun a b _ _ h1 h2 => Int.le_antisymm h1 h2) t1 s1 ((List.mergeSort_perm l _).trans s2.symm)
theorem zs_map (l : List Int) : zs l = l.map (Value.int .i64) := by
 induction l with
 | nil => rfl
 | cons x r ih => show zcell x ++ zs r = _; rw [ih]; rfl
theorem sort_zs (w : World) {base n : Nat} {v : Value} {l : List Int} (hown : w.ownsRow base 3 1 v n (zs l)) (hl : n ≤ 1000000) :
 Calls Tryz.prog 45 #[v] w fun e w' => e = .returned (.tuple #[]) ∧ w'.ownsRow base 3 1 v n (zs (sortT (gtN id) l)) ∧ w.grownBy w' v.ownBlock := by
 have hn : n = l.length := by have := hown.1; rw [zs_length] at this; omega
 rcases hown.2 with ⟨rfl, h0⟩ | ⟨g, cap, cur, rfl, hbase, hb, h1, h2, h3, h4⟩
 ·have hts : l = [] := List.eq_nil_of_length_eq_zero (by omega)
  subst hts
  obtain rfl : n = 0 := hn
  refine (Any.slices_Sort_int_none srti_lays none 0 w).mono ?_
  rintro e w' ⟨rfl, rfl⟩
  exact ⟨rfl, hown, World.grownBy.refl _ _⟩
 ·subst hn
  refine (Any.slices_Sort_int srti_lays g 0 cap l w (holds_of_blockI hb (by rw [zs_map] at h4; simpa using h4)) ((Array.getElem?_eq_some_iff.1 hb).1) (by omega)).mono ?_
  rintro e w' ⟨rfl, m, os, rfl⟩
  rw [sort_ints_eq]
  refine ⟨rfl, ?_, grownBy_sortedI _⟩
  have := ownsRow_sortedI (ts := sortT (gtN id) l) (ss := l) (n := m) (os := os) (srt_len _ l) hbase hb h1 h2 h3
  rwa [zs_map]
end Go.Proofs.YtcjjphioeneiiaaGreatDoor
