/- Several texts in one: LwD. What each proves, and its conditions, stands at its own head. -/
import Derived.Test.YtjogamffdbedkaaGreatDoorPkA3
import Derived.Test.YtjogamffdbedkaaGreatDoorPkA9
import Derived.Test.YtjogamffdbedkaaGreatDoorPkA26
import Derived.Test.YtjogamffdbedkaaGreatDoorPkA20
import Derived.Lib.AppendIntMem
import Derived.Lib.SmallJoins
/- The library's table of tens as a law's row lays it (`DecEnv`); FormatUint; the program's Digits. Conditions: DecEnv; those that each theorem names. -/
namespace Go.Proofs.YtjogamffdbedkaaGreatDoor
open Go.RowKit Go.Sort
set_option linter.unusedVariables false
set_option maxRecDepth 100000

structure DecEnv (w : World) : Prop where
  tab : Lib.TabIs Tryz.prog w "internal/strconv.uint64pow10" .u64 Lib.pow10Tab
theorem gv_tab : Tryz.prog.globalNamed "internal/strconv.uint64pow10" = some 1 := by kernel_rfl
theorem DecEnv.along {w w' : World} (h : DecEnv w) (hb : Below w.heap.size w w') : DecEnv w' := ⟨Joins.var_stays gv_tab h.tab hb (Nat.le_refl _)⟩

theorem sm_any (i : Nat) (h : i < 100) (w : World) : Calls Tryz.prog 143 #[.int .i64 (i : Int)] w fun e w' => e = .returned (.string (strOf (Lib.decDigits i))) ∧ w' = w := Any.internal_strconv_small lsm_lays i h w
theorem nd_any (u : Nat) (h1 : 1 ≤ u) (h2 : u < 18446744073709551616) (w : World) (htab : Lib.TabIs Tryz.prog w "internal/strconv.uint64pow10" .u64 Lib.pow10Tab) :
    Calls Tryz.prog 144 #[.int .u64 (u : Int)] w fun e w' => e = .returned (.int .i64 (Lib.nDigits u)) ∧ w' = w := Any.internal_strconv_numDigits lnd_lays u h1 h2 w htab
def byteV (b : UInt8) : Value := .int .u8 (b.toNat : Int)
/-- The new array and what formatBase10 lays in it. -/
def fuW (w : World) (dk : Array UInt8) (k : Nat) : World := (putRow byteV (w.alloc (.cells Lib.zeros24 129)) w.heap.size 0 dk).drewN k
theorem fb_any (u : Nat) (h1 : 1 ≤ u) (h2 : u < 18446744073709551616) (w : World) :
    Calls Tryz.prog 145 #[.slice (some ⟨w.heap.size, 0, none⟩) (Lib.nDigits u) 24, .int .u64 (u : Int)] (w.alloc (.cells Lib.zeros24 129)) fun e w' =>
      e = .returned (.tuple #[]) ∧ ∃ dk k, w' = fuW w dk k ∧ ∀ j (hj : j < (Lib.decDigits u).length), w'.cell? ((⟨w.heap.size, 0, none⟩ : Addr).add j) = some (byteV (Lib.decDigits u)[j]) := by
  have hnd20 : Lib.nDigits u ≤ 20 := by have := Lib.numDigits_eq u h1 h2; split at this <;> omega
  have hH := Lib.holds_zero0 w 129 (Lib.nDigits u) (by omega)
  have hfmt := Any.internal_strconv_formatBase10 lfb_lays w.heap.size 0 24 u (Array.replicate (Lib.nDigits u) 0) (w.alloc (.cells Lib.zeros24 129)) hH (by rw [Array.size_replicate]; exact Lib.lt_pow_nDigits u) h2 (by rw [Array.size_replicate]; omega)
  rw [Array.size_replicate] at hfmt
  refine Calls.mono hfmt ?_
  rintro e w' ⟨he, k, v', dk, hw, hF⟩
  refine ⟨he, dk, k, hw, fun j hj => ?_⟩
  rw [hw, Lib.row_is_numeral hF j hj, Lib.add_plain, World.cell?_drewN]
  exact cell?_putRow (fun (b : UInt8) => Value.int .u8 (b.toNat : Int)) _ w.heap.size 0 _ dk hH (by rw [hF.size, Array.size_replicate]) j (by rw [hF.size]; rw [Lib.decDigits_length] at hj; exact hj)
theorem fuW_below (w : World) (dk : Array UInt8) (k : Nat) : Below w.heap.size w (fuW w dk k) := by
  obtain ⟨os, e⟩ := Lib.fin_at w (.cells Lib.zeros24 129) dk k 0
  show Below w.heap.size w ((putRow (fun (b : UInt8) => Value.int .u8 (b.toNat : Int)) (w.alloc (.cells Lib.zeros24 129)) w.heap.size 0 dk).drewN k)
  rw [e]
  exact Lib.below_grow _ w (Nat.le_refl _) k os

set_option maxHeartbeats 4000000 in
theorem fui_any (u : Nat) (hu64 : u < 18446744073709551616) (w : World) (htab : Lib.TabIs Tryz.prog w "internal/strconv.uint64pow10" .u64 Lib.pow10Tab) :
    Calls Tryz.prog 135 #[.int .u64 (u : Int), .int .i64 10] w fun e w' => e = .returned (.string (strOf (Lib.decDigits u))) ∧ Below w.heap.size w w' := by
  by_cases hs : u < 100
  · have g1 : decide ((u : Int) < 100) = true := decide_eq_true (by omega)
    have hw : wrap64 (u : Int) = (u : Int) := wrap64_in2 _ (by omega)
    go_enter Tryz.func135, Tryz.ntmps135
    go_wp2_with (go_at_call 143; refine (sm_any u hs _).mono ?_; rintro e w' ⟨rfl, rfl⟩)
    go_ret
    exact ⟨rfl, Below.refl _ _⟩
  · have g1 : decide ((u : Int) < 100) = false := decide_eq_false (by omega)
    have hu1 : 1 ≤ u := by omega
    have hnd20 : Lib.nDigits u ≤ 20 := by have := Lib.numDigits_eq u hu1 hu64; split at this <;> omega
    have hlen := Lib.decDigits_length u
    have hal : Tryz.prog.arrayLen 129 = 24 := by kernel_rfl
    obtain ⟨m, hm⟩ : ∃ m, m = Lib.nDigits u := ⟨_, rfl⟩
    have HND := Lib.hid (fun w h => nd_any u hu1 hu64 w h)
    have HFB := Lib.hid (fb_any u hu1 hu64 w)
    rw [← hm] at HND HFB hlen hnd20
    have hsl : ∀ W, (Instr.sliceAt 129 (.pointer (some ⟨w.heap.size, 0, none⟩)) none (some (.int .i64 (m : Int))) none).run Tryz.prog W = .ok (.slice (some ⟨w.heap.size, 0, none⟩) m 24) W := fun W => by
      rw [run_sliceAt_array_h W 129 ⟨w.heap.size, 0, none⟩ (by simp [Program.arrayLen, Program.elem, Tryz.underlying129]) .i64 (m : Int) (by omega) (by rw [hal]; omega)]
      go_simp
    clear hal hm
    go_enter Tryz.func135, Tryz.ntmps135
    go_wp2_with (first
      | (go_at_call 144; refine (HND.out _ (Lib.tabIs_alloc htab _)).mono ?_; rintro e w' ⟨rfl, rfl⟩)
      | (go_at_call 145
         refine HFB.out.mono ?_
         rintro e w' ⟨rfl, dk, k, hw, hc⟩
         have HBE := Lib.hid (fuW_below w dk k)
         rw [← hw] at HBE
         clear hw
         have hcv : (convert 45 9 (.slice (some ⟨w.heap.size, 0, none⟩) m 24)).run Tryz.prog w' = .ok (.string (strOf (Lib.decDigits u))) w' := by
           have h := run_convert_bytes_back (P := Tryz.prog) w' 45 9 5 ⟨w.heap.size, 0, none⟩ 24 (Lib.decDigits u) Tryz.underlying45 Tryz.underlying5 Tryz.underlying9 hc
           rw [hlen] at h
           exact h
         clear hc))
    go_ret
    exact ⟨rfl, HBE.out⟩
theorem fu_any (u : Nat) (hu64 : u < 18446744073709551616) (w : World) (htab : Lib.TabIs Tryz.prog w "internal/strconv.uint64pow10" .u64 Lib.pow10Tab) :
    Calls Tryz.prog 102 #[.int .u64 (u : Int), .int .i64 10] w fun e w' => e = .returned (.string (strOf (Lib.decDigits u))) ∧ Below w.heap.size w w' := by
  have H := Lib.hid (fui_any u hu64 w htab)
  clear htab
  go_enter Tryz.func102, Tryz.ntmps102
  go_wp2_with (go_at_call 135; refine H.out.mono ?_; rintro e w' ⟨rfl, hb⟩)
  go_ret
  exact ⟨rfl, hb⟩

theorem pdigits_any (n : Nat) (neg : Bool) (w : World) (env : DecEnv w) (hn : n < 18446744073709551616) : Calls Tryz.prog 62 #[.int .u64 (n : Int), .bool neg] w fun e w' => e = .returned (.string (strOf (digitsT n neg))) ∧ Below w.heap.size w w' := by
  have hl : (Lib.decDigits n).length ≤ 20 := by
    rw [Lib.decDigits_length]
    by_cases h : n = 0
    · subst h; rw [Lib.nDigits_small (by decide)]; decide
    · have := Lib.numDigits_eq n (by omega) hn; split at this <;> omega
  have HD := Lib.hid (digitsT_lib n neg)
  have HF := Lib.hid (fu_any n hn w env.tab)
  obtain ⟨o, ho⟩ : ∃ o, o = strOf (Lib.decDigits n) := ⟨_, rfl⟩
  rw [← ho] at HF
  have hos : o.size ≤ 20 := by rw [ho, str_size]; exact hl
  have HO := Lib.hid ho
  have hcap : ¬ 9223372036854775807 < 1 + o.size := by omega
  clear ho hl env
  by_cases h0 : n = 0
  · subst h0
    rw [decide_eq_false (fun h => h rfl), Bool.and_false, if_neg (by decide)] at HD
    rw [show ((0 : Nat) : Int) = 0 from rfl] at HF ⊢
    clear hn
    cases neg
    all_goals
      go_enter Tryz.func62, Tryz.ntmps62
      go_wp2_with (go_at_call 102; refine HF.out.mono ?_; rintro e w' ⟨rfl, hb⟩)
      go_ret
      exact ⟨by rw [HD.out, ← HO.out]; rfl, hb⟩
  · have e0 : ((n : Int) == 0) = false := beq_false_of_ne (by omega)
    have f0 : ¬ (n : Int) = 0 := by omega
    rw [decide_eq_true h0, Bool.and_true] at HD
    clear h0 hn
    cases neg with
    | true =>
      rw [if_pos rfl] at HD
      go_enter Tryz.func62, Tryz.ntmps62
      go_wp2_with (go_at_call 102; refine HF.out.mono ?_; rintro e w' ⟨rfl, hb⟩)
      go_ret
      refine ⟨?_, hb⟩
      rw [HD.out, show (45 :: Lib.decDigits n) = [45] ++ Lib.decDigits n from rfl, ← strOf_append, ← HO.out]
      rfl
    | false =>
      rw [if_neg (by decide)] at HD
      go_enter Tryz.func62, Tryz.ntmps62
      go_wp2_with (go_at_call 102; refine HF.out.mono ?_; rintro e w' ⟨rfl, hb⟩)
      go_ret
      exact ⟨by rw [HD.out, ← HO.out]; rfl, hb⟩
end Go.Proofs.YtjogamffdbedkaaGreatDoor
