/- Several texts in one: ScQ. What each proves, and its conditions, stands at its own head. -/
import Derived.Test.YtmdekdmcnnbofaaDoorPkVD15
import Derived.Test.YtmdekdmcnnbofaaDoorPkVD12
import Derived.Test.YtmdekdmcnnbofaaDoorPkVD3
import Derived.Stop.LaidErr
/- The program's answers on types, over its table. Conditions: ScEnv; those that each theorem names. -/
namespace Go.Proofs.YtmdekdmcnnbofaaDoor
open Go.RowKit
set_option linter.unusedVariables false
set_option maxRecDepth 100000

def tyI (ty : Int) : Nat := if 0 < ty ∧ ty < 16 then ty.toNat else 0
def knownB (ty : Int) : Bool := decide (0 < ty) && decide (ty < 16)
def rowV (i : Nat) : Value := .agg #[.string (strOf (rowW i)), .int .i64 (rowI i), .int .i64 (rowM i), .int .u64 (rowX i)]

theorem pknown_any (ty : Int) (w : World) : Calls Tryd.prog 53 #[.int .i64 ty] w fun e w' => e = .returned (.bool (knownB ty)) ∧ w' = w := by
  by_cases h1 : 0 < ty
  · by_cases h2 : ty < 16
    · have a1 : decide (0 < ty) = true := decide_eq_true h1
      have a2 : decide (ty < 16) = true := decide_eq_true h2
      go_enter Tryd.func53, Tryd.ntmps53
      go_wp2
      go_ret
      exact ⟨by unfold knownB; rw [a1, a2]; rfl, rfl⟩
    · have a1 : decide (0 < ty) = true := decide_eq_true h1
      have a2 : decide (ty < 16) = false := decide_eq_false h2
      go_enter Tryd.func53, Tryd.ntmps53
      go_wp2
      go_ret
      exact ⟨by unfold knownB; rw [a1, a2]; rfl, rfl⟩
  · have a1 : decide (0 < ty) = false := decide_eq_false h1
    go_enter Tryd.func53, Tryd.ntmps53
    go_wp2
    go_ret
    exact ⟨by unfold knownB; rw [a1]; rfl, rfl⟩

theorem pof_any (ty : Int) (w : World) (env : ScEnv w) : Calls Tryd.prog 51 #[.int .i64 ty] w fun e w' => e = .returned (rowV (tyI ty)) ∧ Below w.heap.size w w' := by
  by_cases h : knownB ty = true
  · have HK := Lib.hid (fun w => pknown_any ty w)
    rw [h] at HK
    have h2 : 0 < ty ∧ ty < 16 := by unfold knownB at h; simpa using h
    have hi : tyI ty = ty.toNat := by unfold tyI; rw [if_pos h2]
    rw [hi]
    obtain ⟨k, hk⟩ : ∃ k, k = ty.toNat := ⟨_, rfl⟩
    obtain rfl : ty = (k : Int) := by omega
    have hk16 : k < 16 := by omega
    rw [← hk]
    have c0 := fun o => cell?_alloc_old o (env.c0 k hk16)
    have c1 := fun o => cell?_alloc_old o (env.c1 k hk16)
    have c2 := fun o => cell?_alloc_old o (env.c2 k hk16)
    have c3 := fun o => cell?_alloc_old o (env.c3 k hk16)
    clear hk hi h env
    go_enter Tryd.func51, Tryd.ntmps51
    go_wp2_with (go_at_call 53; refine (HK.out _).mono ?_; rintro e w' ⟨rfl, rfl⟩)
    refine bodyPost_ret (v := rowV k) ?_ rfl ⟨rfl, (Below.refl _ _).alloc (Nat.le_refl _) _⟩
    have hres : Tryd.f51.results = #[.cell 2 81] := by kernel_rfl
    simp only [results, hres, rowV]
    go_simp
  · have HK := Lib.hid (fun w => pknown_any ty w)
    have h := eq_false_of_ne_true h
    rw [h] at HK
    have hi : tyI ty = 0 := by unfold tyI; rw [if_neg (fun h2 => by unfold knownB at h; simp [h2.1, h2.2] at h)]
    rw [hi]
    have c0 := fun o => cell?_alloc_old o (env.c0 0 (by omega))
    have c1 := fun o => cell?_alloc_old o (env.c1 0 (by omega))
    have c2 := fun o => cell?_alloc_old o (env.c2 0 (by omega))
    have c3 := fun o => cell?_alloc_old o (env.c3 0 (by omega))
    simp only [Nat.zero_mul, Nat.zero_add] at c0 c1 c2 c3
    clear hi h env
    go_enter Tryd.func51, Tryd.ntmps51
    go_wp2_with (go_at_call 53; refine (HK.out _).mono ?_; rintro e w' ⟨rfl, rfl⟩)
    refine bodyPost_ret (v := rowV 0) ?_ rfl ⟨rfl, (Below.refl _ _).alloc (Nat.le_refl _) _⟩
    have hres : Tryd.f51.results = #[.cell 2 81] := by kernel_rfl
    simp only [results, hres, rowV]
    go_simp

def hasB (m k : Int) : Bool := bits BinOp.and IntKind.i64 m k != 0
theorem phas_any (i : Nat) (k : Int) (w : World) : Calls Tryd.prog 52 #[rowV i, .int .i64 k] w fun e w' => e = .returned (.bool (hasB (rowM i) k)) ∧ Below w.heap.size w w' := by
  unfold rowV hasB
  obtain ⟨m, hm⟩ : ∃ m, m = rowM i := ⟨_, rfl⟩
  obtain ⟨x, hx⟩ : ∃ x, x = rowX i := ⟨_, rfl⟩
  obtain ⟨a, ha⟩ : ∃ a, a = rowI i := ⟨_, rfl⟩
  obtain ⟨s, hs⟩ : ∃ s, s = strOf (rowW i) := ⟨_, rfl⟩
  rw [← hm, ← hx, ← ha, ← hs]
  clear hm hx ha hs
  obtain ⟨b, hb⟩ : ∃ b, b = bits BinOp.and IntKind.i64 m k := ⟨_, rfl⟩
  rw [← hb]
  by_cases h0 : b = 0
  · rw [h0] at hb ⊢
    have hb' := hb.symm
    clear hb
    go_enter Tryd.func52, Tryd.ntmps52
    go_wp2
    go_ret
    exact ⟨rfl, (Below.refl _ _).alloc (Nat.le_refl _) _⟩
  · have h1 : (b != 0) = true := by simpa using h0
    have h2 : (b == 0) = false := beq_false_of_ne h0
    have hb' := hb.symm
    clear hb
    go_enter Tryd.func52, Tryd.ntmps52
    go_wp2
    go_ret
    exact ⟨by rw [h1]; rfl, (Below.refl _ _).alloc (Nat.le_refl _) _⟩

theorem has_Number (ty : Int) : hasB (rowM (tyI ty)) 1 = numberT ty := by
  rcases ty_cases ty with rfl | rfl | rfl | rfl | rfl | rfl | rfl | rfl | rfl | rfl | rfl | rfl | rfl | rfl | rfl | h | h
  all_goals first | (decide +kernel) | (rw [out_number (by omega), show tyI ty = 0 by unfold tyI; rw [if_neg (by omega)]]; decide +kernel)
theorem pnumber_any (ty : Int) (w : World) (env : ScEnv w) : Calls Tryd.prog 31 #[.int .i64 ty] w fun e w' => e = .returned (.bool (numberT ty)) ∧ Below w.heap.size w w' := by
  have H1 := Lib.hid (pof_any ty w env)
  have H2 := Lib.hid (fun w => phas_any (tyI ty) 1 w)
  rw [has_Number] at H2
  clear env
  go_enter Tryd.func31, Tryd.ntmps31
  go_wp2_with (first
    | (go_at_call 51; refine H1.out.mono ?_; rintro e w1 ⟨rfl, hb1⟩)
    | (go_at_call 52; refine (H2.out _).mono ?_; rintro e w2 ⟨rfl, hb2⟩))
  go_ret
  exact ⟨rfl, hb1.trans (hb2.mono hb1.size)⟩

theorem has_Signed (ty : Int) : hasB (rowM (tyI ty)) 4 = signedT ty := by
  rcases ty_cases ty with rfl | rfl | rfl | rfl | rfl | rfl | rfl | rfl | rfl | rfl | rfl | rfl | rfl | rfl | rfl | h | h
  all_goals first | (decide +kernel) | (rw [out_signed (by omega), show tyI ty = 0 by unfold tyI; rw [if_neg (by omega)]]; decide +kernel)
theorem has_Wide (ty : Int) : hasB (rowM (tyI ty)) 8 = wideT ty := by
  rcases ty_cases ty with rfl | rfl | rfl | rfl | rfl | rfl | rfl | rfl | rfl | rfl | rfl | rfl | rfl | rfl | rfl | h | h
  all_goals first | (decide +kernel) | (rw [out_wide (by omega), show tyI ty = 0 by unfold tyI; rw [if_neg (by omega)]]; decide +kernel)
theorem row_may (ty : Int) (n : Nat) : mayT ty n = if knownB ty = false then false else if hasB (rowM (tyI ty)) 8 = true then true else if hasB (rowM (tyI ty)) 4 = true then fitsB (wrap64 (n : Int)) else decide ((n : Int) ≤ rowX (tyI ty)) := by
  rw [has_Wide, has_Signed]
  by_cases h : ty < 1 ∨ 15 < ty
  · rw [out_may n h, if_pos]
    unfold knownB
    rcases h with h | h
    · rw [decide_eq_false (by omega)]; rfl
    · rw [decide_eq_false (p := ty < 16) (by omega), Bool.and_false]
  · rw [if_neg (show ¬ knownB ty = false by unfold knownB; rw [decide_eq_true (by omega), decide_eq_true (by omega)]; decide)]
    unfold mayT
    rw [if_neg h]
    by_cases h1 : wideT ty = true
    · rw [if_pos h1, if_pos h1]
    · rw [if_neg h1, if_neg h1]
      by_cases h2 : signedT ty = true
      · rw [if_pos h2, if_pos h2]
      · rw [if_neg h2, if_neg h2]
        rcases ty_cases ty with rfl | rfl | rfl | rfl | rfl | rfl | rfl | rfl | rfl | rfl | rfl | rfl | rfl | rfl | rfl | h3 | h3
        all_goals first
          | (exact absurd (by decide +kernel) h1)
          | (exact absurd (by decide +kernel) h2)
          | (exfalso; omega)
          | (show decide (n < 4294967296) = decide ((n : Int) ≤ 4294967295); exact decide_eq_decide.2 (by omega))
          | (show decide (n < 2) = decide ((n : Int) ≤ 1); exact decide_eq_decide.2 (by omega))
          | (show decide (n = 0) = decide ((n : Int) ≤ 0); exact decide_eq_decide.2 (by omega))
set_option maxHeartbeats 4000000 in
theorem pmay_any (ty : Int) (n : Nat) (w : World) (env : ScEnv w) (hn : n < 18446744073709551616) : Calls Tryd.prog 32 #[.int .i64 ty, .int .u64 (n : Int)] w fun e w' => e = .returned (.bool (mayT ty n)) ∧ Below w.heap.size w w' := by
  have H1 := Lib.hid (pof_any ty w env)
  have HK := Lib.hid (fun w => pknown_any ty w)
  have H8 := Lib.hid (fun w => phas_any (tyI ty) 8 w)
  have H4 := Lib.hid (fun w => phas_any (tyI ty) 4 w)
  have HF := Lib.hid (fun w => fits_any (wrap64 (n : Int)) w (by unfold wrap64; omega) (by unfold wrap64; omega))
  have HR := Lib.hid (row_may ty n)
  obtain ⟨i, hi⟩ : ∃ i, i = tyI ty := ⟨_, rfl⟩
  rw [← hi] at H1 H8 H4 HR
  clear env hi
  unfold rowV at H1 H8 H4
  obtain ⟨x, hx⟩ : ∃ x, x = rowX i := ⟨_, rfl⟩
  obtain ⟨m, hm⟩ : ∃ m, m = rowM i := ⟨_, rfl⟩
  obtain ⟨a, ha⟩ : ∃ a, a = rowI i := ⟨_, rfl⟩
  obtain ⟨s, hs⟩ : ∃ s, s = strOf (rowW i) := ⟨_, rfl⟩
  rw [← hx, ← hm, ← ha, ← hs] at H1 H8 H4
  rw [← hx, ← hm] at HR
  clear hx hm ha hs
  cases hk : knownB ty with
  | false =>
    rw [hk] at HK HR
    rw [if_pos rfl] at HR
    go_enter Tryd.func32, Tryd.ntmps32
    go_wp2_with (first
      | (go_at_call 51; refine H1.out.mono ?_; rintro e w1 ⟨rfl, hb⟩; have HB := Lib.hid (fun o => hb.alloc hb.size o); clear hb)
      | (go_at_call 53; refine (HK.out _).mono ?_; rintro e w1 ⟨rfl, rfl⟩)
      | (go_at_call 52; refine (H8.out _).mono ?_; rintro e w2 ⟨rfl, hb⟩; have HB8 := Lib.hid ((HB.out _).trans (hb.mono (HB.out _).size)); have d0 : w2.cell? ⟨w1.heap.size, 0, none⟩ = some (.string s) := cell_goes ((obj_cell (heap_alloc_new w1 _) 0).trans rfl) hb; have d1 : w2.cell? ⟨w1.heap.size, 1, none⟩ = some (.int .i64 a) := cell_goes ((obj_cell (heap_alloc_new w1 _) 1).trans rfl) hb; have d2 : w2.cell? ⟨w1.heap.size, 2, none⟩ = some (.int .i64 m) := cell_goes ((obj_cell (heap_alloc_new w1 _) 2).trans rfl) hb; have d3 : w2.cell? ⟨w1.heap.size, 3, none⟩ = some (.int .u64 x) := cell_goes ((obj_cell (heap_alloc_new w1 _) 3).trans rfl) hb; clear hb)
      | (go_at_call 52; refine (H4.out _).mono ?_; rintro e w3 ⟨rfl, hb⟩; have HB4 := Lib.hid (HB8.out.trans (hb.mono HB8.out.size)); have e3 : w3.cell? ⟨w1.heap.size, 3, none⟩ = some (.int .u64 x) := cell_goes d3 hb; clear hb)
      | (go_at_call 54; refine (HF.out _).mono ?_; rintro e w4 ⟨rfl, rfl⟩))
    go_ret
    exact ⟨ret_bool' HR.out.symm, HB.out _⟩
  | true =>
    rw [hk] at HK HR
    rw [if_neg (by decide)] at HR
    cases h8 : hasB m 8 with
    | true =>
      rw [h8] at H8 HR
      rw [if_pos rfl] at HR
      go_enter Tryd.func32, Tryd.ntmps32
      go_wp2_with (first
        | (go_at_call 51; refine H1.out.mono ?_; rintro e w1 ⟨rfl, hb⟩; have HB := Lib.hid (fun o => hb.alloc hb.size o); clear hb)
        | (go_at_call 53; refine (HK.out _).mono ?_; rintro e w1 ⟨rfl, rfl⟩)
        | (go_at_call 52; refine (H8.out _).mono ?_; rintro e w2 ⟨rfl, hb⟩; have HB8 := Lib.hid ((HB.out _).trans (hb.mono (HB.out _).size)); have d0 : w2.cell? ⟨w1.heap.size, 0, none⟩ = some (.string s) := cell_goes ((obj_cell (heap_alloc_new w1 _) 0).trans rfl) hb; have d1 : w2.cell? ⟨w1.heap.size, 1, none⟩ = some (.int .i64 a) := cell_goes ((obj_cell (heap_alloc_new w1 _) 1).trans rfl) hb; have d2 : w2.cell? ⟨w1.heap.size, 2, none⟩ = some (.int .i64 m) := cell_goes ((obj_cell (heap_alloc_new w1 _) 2).trans rfl) hb; have d3 : w2.cell? ⟨w1.heap.size, 3, none⟩ = some (.int .u64 x) := cell_goes ((obj_cell (heap_alloc_new w1 _) 3).trans rfl) hb; clear hb)
        | (go_at_call 52; refine (H4.out _).mono ?_; rintro e w3 ⟨rfl, hb⟩; have HB4 := Lib.hid (HB8.out.trans (hb.mono HB8.out.size)); have e3 : w3.cell? ⟨w1.heap.size, 3, none⟩ = some (.int .u64 x) := cell_goes d3 hb; clear hb)
        | (go_at_call 54; refine (HF.out _).mono ?_; rintro e w4 ⟨rfl, rfl⟩))
      go_ret
      exact ⟨ret_bool' HR.out.symm, HB8.out⟩
    | false =>
      rw [h8] at H8 HR
      rw [if_neg (by decide)] at HR
      cases h4 : hasB m 4 with
      | true =>
        rw [h4] at H4 HR
        rw [if_pos rfl] at HR
        go_enter Tryd.func32, Tryd.ntmps32
        go_wp2_with (first
          | (go_at_call 51; refine H1.out.mono ?_; rintro e w1 ⟨rfl, hb⟩; have HB := Lib.hid (fun o => hb.alloc hb.size o); clear hb)
          | (go_at_call 53; refine (HK.out _).mono ?_; rintro e w1 ⟨rfl, rfl⟩)
          | (go_at_call 52; refine (H8.out _).mono ?_; rintro e w2 ⟨rfl, hb⟩; have HB8 := Lib.hid ((HB.out _).trans (hb.mono (HB.out _).size)); have d0 : w2.cell? ⟨w1.heap.size, 0, none⟩ = some (.string s) := cell_goes ((obj_cell (heap_alloc_new w1 _) 0).trans rfl) hb; have d1 : w2.cell? ⟨w1.heap.size, 1, none⟩ = some (.int .i64 a) := cell_goes ((obj_cell (heap_alloc_new w1 _) 1).trans rfl) hb; have d2 : w2.cell? ⟨w1.heap.size, 2, none⟩ = some (.int .i64 m) := cell_goes ((obj_cell (heap_alloc_new w1 _) 2).trans rfl) hb; have d3 : w2.cell? ⟨w1.heap.size, 3, none⟩ = some (.int .u64 x) := cell_goes ((obj_cell (heap_alloc_new w1 _) 3).trans rfl) hb; clear hb)
          | (go_at_call 52; refine (H4.out _).mono ?_; rintro e w3 ⟨rfl, hb⟩; have HB4 := Lib.hid (HB8.out.trans (hb.mono HB8.out.size)); have e3 : w3.cell? ⟨w1.heap.size, 3, none⟩ = some (.int .u64 x) := cell_goes d3 hb; clear hb)
          | (go_at_call 54; refine (HF.out _).mono ?_; rintro e w4 ⟨rfl, rfl⟩))
        go_ret
        exact ⟨ret_bool' HR.out.symm, HB4.out⟩
      | false =>
        rw [h4] at H4 HR
        rw [if_neg (by decide)] at HR
        go_enter Tryd.func32, Tryd.ntmps32
        go_wp2_with (first
          | (go_at_call 51; refine H1.out.mono ?_; rintro e w1 ⟨rfl, hb⟩; have HB := Lib.hid (fun o => hb.alloc hb.size o); clear hb)
          | (go_at_call 53; refine (HK.out _).mono ?_; rintro e w1 ⟨rfl, rfl⟩)
          | (go_at_call 52; refine (H8.out _).mono ?_; rintro e w2 ⟨rfl, hb⟩; have HB8 := Lib.hid ((HB.out _).trans (hb.mono (HB.out _).size)); have d0 : w2.cell? ⟨w1.heap.size, 0, none⟩ = some (.string s) := cell_goes ((obj_cell (heap_alloc_new w1 _) 0).trans rfl) hb; have d1 : w2.cell? ⟨w1.heap.size, 1, none⟩ = some (.int .i64 a) := cell_goes ((obj_cell (heap_alloc_new w1 _) 1).trans rfl) hb; have d2 : w2.cell? ⟨w1.heap.size, 2, none⟩ = some (.int .i64 m) := cell_goes ((obj_cell (heap_alloc_new w1 _) 2).trans rfl) hb; have d3 : w2.cell? ⟨w1.heap.size, 3, none⟩ = some (.int .u64 x) := cell_goes ((obj_cell (heap_alloc_new w1 _) 3).trans rfl) hb; clear hb)
          | (go_at_call 52; refine (H4.out _).mono ?_; rintro e w3 ⟨rfl, hb⟩; have HB4 := Lib.hid (HB8.out.trans (hb.mono HB8.out.size)); have e3 : w3.cell? ⟨w1.heap.size, 3, none⟩ = some (.int .u64 x) := cell_goes d3 hb; clear hb)
          | (go_at_call 54; refine (HF.out _).mono ?_; rintro e w4 ⟨rfl, rfl⟩))
        go_ret
        exact ⟨ret_bool' HR.out.symm, HB4.out⟩
end Go.Proofs.YtmdekdmcnnbofaaDoor
