/- Several texts in one: ScQ. What each proves, and its conditions, stands at its own head. -/
import Derived.Test.YtjogamffdbedkaaGreatDoorPkA16
import Derived.Test.YtjogamffdbedkaaGreatDoorChecked
import Derived.Lib.BitFns
import Derived.Laws.BitsLemmas
import Derived.Lib.EndianBits
import Derived.RowKit
import Derived.Test.YtjogamffdbedkaaGreatDoorPkA0
import Derived.WalkKit
import Derived.RowKitTokens
import Derived.Lib.Hide
import Derived.Test.YtjogamffdbedkaaGreatDoorPkA4
import Derived.Stop.LaidErr
/- The program's answers on types, over its table. Conditions: ScEnv; those that each theorem names. -/
namespace Go.Proofs.YtjogamffdbedkaaGreatDoor
open Go.RowKit
set_option linter.unusedVariables false
set_option maxRecDepth 100000

def tyI (ty : Int) : Nat := if 0 < ty ∧ ty < 16 then ty.toNat else 0
def knownB (ty : Int) : Bool := decide (0 < ty) && decide (ty < 16)
def rowV (i : Nat) : Value := .agg #[.string (strOf (rowW i)), .int .i64 (rowI i), .int .i64 (rowM i), .int .u64 (rowX i)]

theorem pknown_any (ty : Int) (w : World) : Calls Tryz.prog 142 #[.int .i64 ty] w fun e w' => e = .returned (.bool (knownB ty)) ∧ w' = w := by
  by_cases h1 : 0 < ty
  · by_cases h2 : ty < 16
    · have a1 : decide (0 < ty) = true := decide_eq_true h1
      have a2 : decide (ty < 16) = true := decide_eq_true h2
      go_enter Tryz.func142, Tryz.ntmps142
      go_wp2
      go_ret
      exact ⟨by unfold knownB; rw [a1, a2]; rfl, rfl⟩
    · have a1 : decide (0 < ty) = true := decide_eq_true h1
      have a2 : decide (ty < 16) = false := decide_eq_false h2
      go_enter Tryz.func142, Tryz.ntmps142
      go_wp2
      go_ret
      exact ⟨by unfold knownB; rw [a1, a2]; rfl, rfl⟩
  · have a1 : decide (0 < ty) = false := decide_eq_false h1
    go_enter Tryz.func142, Tryz.ntmps142
    go_wp2
    go_ret
    exact ⟨by unfold knownB; rw [a1]; rfl, rfl⟩

theorem pof_any (ty : Int) (w : World) (env : ScEnv w) : Calls Tryz.prog 134 #[.int .i64 ty] w fun e w' => e = .returned (rowV (tyI ty)) ∧ Below w.heap.size w w' := by
  by_cases h : knownB ty = true
  · have HK := Lib.hid (fun w => pknown_any ty w)
    rw [h] at HK
    have h2 : 0 < ty ∧ ty < 16 := by unfold knownB at h; simpa using h
    have hi : tyI ty = ty.toNat := by unfold tyI; rw [if_pos h2]
    rw [hi]
    obtain ⟨k, hk⟩ : ∃ k, k = ty.toNat := ⟨_, rfl⟩
    obtain rfl : ty = (k : Int) := by omega
    have hk16 : k < 16 := by omega
    rw [← hk]
    have c0 := fun o => cell?_alloc_old o (env.c0 k hk16)
    have c1 := fun o => cell?_alloc_old o (env.c1 k hk16)
    have c2 := fun o => cell?_alloc_old o (env.c2 k hk16)
    have c3 := fun o => cell?_alloc_old o (env.c3 k hk16)
    clear hk hi h env
    go_enter Tryz.func134, Tryz.ntmps134
    go_wp2_with (go_at_call 142; refine (HK.out _).mono ?_; rintro e w' ⟨rfl, rfl⟩)
    refine bodyPost_ret (v := rowV k) ?_ rfl ⟨rfl, (Below.refl _ _).alloc (Nat.le_refl _) _⟩
    have hres : Tryz.f134.results = #[.cell 2 121] := by kernel_rfl
    simp only [results, hres, rowV]
    go_simp
  · have HK := Lib.hid (fun w => pknown_any ty w)
    have h := eq_false_of_ne_true h
    rw [h] at HK
    have hi : tyI ty = 0 := by unfold tyI; rw [if_neg (fun h2 => by unfold knownB at h; simp [h2.1, h2.2] at h)]
    rw [hi]
    have c0 := fun o => cell?_alloc_old o (env.c0 0 (by omega))
    have c1 := fun o => cell?_alloc_old o (env.c1 0 (by omega))
    have c2 := fun o => cell?_alloc_old o (env.c2 0 (by omega))
    have c3 := fun o => cell?_alloc_old o (env.c3 0 (by omega))
    simp only [Nat.zero_mul, Nat.zero_add] at c0 c1 c2 c3
    clear hi h env
    go_enter Tryz.func134, Tryz.ntmps134
    go_wp2_with (go_at_call 142; refine (HK.out _).mono ?_; rintro e w' ⟨rfl, rfl⟩)
    refine bodyPost_ret (v := rowV 0) ?_ rfl ⟨rfl, (Below.refl _ _).alloc (Nat.le_refl _) _⟩
    have hres : Tryz.f134.results = #[.cell 2 121] := by kernel_rfl
    simp only [results, hres, rowV]
    go_simp

def hasB (m k : Int) : Bool := bits BinOp.and IntKind.i64 m k != 0
theorem phas_any (i : Nat) (k : Int) (w : World) : Calls Tryz.prog 141 #[rowV i, .int .i64 k] w fun e w' => e = .returned (.bool (hasB (rowM i) k)) ∧ Below w.heap.size w w' := by
  unfold rowV hasB
  obtain ⟨m, hm⟩ : ∃ m, m = rowM i := ⟨_, rfl⟩
  obtain ⟨x, hx⟩ : ∃ x, x = rowX i := ⟨_, rfl⟩
  obtain ⟨a, ha⟩ : ∃ a, a = rowI i := ⟨_, rfl⟩
  obtain ⟨s, hs⟩ : ∃ s, s = strOf (rowW i) := ⟨_, rfl⟩
  rw [← hm, ← hx, ← ha, ← hs]
  clear hm hx ha hs
  obtain ⟨b, hb⟩ : ∃ b, b = bits BinOp.and IntKind.i64 m k := ⟨_, rfl⟩
  rw [← hb]
  by_cases h0 : b = 0
  · rw [h0] at hb ⊢
    have hb' := hb.symm
    clear hb
    go_enter Tryz.func141, Tryz.ntmps141
    go_wp2
    go_ret
    exact ⟨rfl, (Below.refl _ _).alloc (Nat.le_refl _) _⟩
  · have h1 : (b != 0) = true := by simpa using h0
    have h2 : (b == 0) = false := beq_false_of_ne h0
    have hb' := hb.symm
    clear hb
    go_enter Tryz.func141, Tryz.ntmps141
    go_wp2
    go_ret
    exact ⟨by rw [h1]; rfl, (Below.refl _ _).alloc (Nat.le_refl _) _⟩

theorem has_Number (ty : Int) : hasB (rowM (tyI ty)) 1 = numberT ty := by
  rcases ty_cases ty with rfl | rfl | rfl | rfl | rfl | rfl | rfl | rfl | rfl | rfl | rfl | rfl | rfl | rfl | rfl | h | h
  all_goals first | (decide +kernel) | (rw [out_number (by omega), show tyI ty = 0 by unfold tyI; rw [if_neg (by omega)]]; decide +kernel)
theorem pnumber_any (ty : Int) (w : World) (env : ScEnv w) : Calls Tryz.prog 133 #[.int .i64 ty] w fun e w' => e = .returned (.bool (numberT ty)) ∧ Below w.heap.size w w' := by
  have H1 := Lib.hid (pof_any ty w env)
  have H2 := Lib.hid (fun w => phas_any (tyI ty) 1 w)
  rw [has_Number] at H2
  clear env
  go_enter Tryz.func133, Tryz.ntmps133
  go_wp2_with (first
    | (go_at_call 134; refine H1.out.mono ?_; rintro e w1 ⟨rfl, hb1⟩)
    | (go_at_call 141; refine (H2.out _).mono ?_; rintro e w2 ⟨rfl, hb2⟩))
  go_ret
  exact ⟨rfl, hb1.trans (hb2.mono hb1.size)⟩

theorem row_word (ty : Int) : rowW (tyI ty) = wordT ty := by
  rcases ty_cases ty with rfl | rfl | rfl | rfl | rfl | rfl | rfl | rfl | rfl | rfl | rfl | rfl | rfl | rfl | rfl | h | h
  all_goals first | rfl | (rw [out_word (by omega), show tyI ty = 0 by unfold tyI; rw [if_neg (by omega)]]; rfl)
theorem pword_any2 (ty : Int) (w : World) (env : ScEnv w) : Calls Tryz.prog 101 #[.int .i64 ty] w fun e w' => e = .returned (.string (strOf (wordT ty))) ∧ Below w.heap.size w w' := by
  have H1 := Lib.hid (pof_any ty w env)
  unfold rowV at H1
  rw [row_word] at H1
  have hfi : ∀ (a b c d : Value) (w : World), (Instr.field 121 (.agg #[a, b, c, d]) 0).run Tryz.prog w = .ok a w := fun a b c d w => by kernel_rfl
  clear env
  go_enter Tryz.func101, Tryz.ntmps101
  go_wp2_with (go_at_call 134; refine H1.out.mono ?_; rintro e w1 ⟨rfl, hb1⟩)
  go_ret
  exact ⟨rfl, hb1⟩
end Go.Proofs.YtjogamffdbedkaaGreatDoor
