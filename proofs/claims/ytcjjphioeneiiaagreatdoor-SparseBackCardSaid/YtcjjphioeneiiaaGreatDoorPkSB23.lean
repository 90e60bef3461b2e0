/- Several texts in one: LwA, LwT. What each proves, and its conditions, stands at its own head. -/
import Derived.Test.YtcjjphioeneiiaaGreatDoorPkSB21
import Derived.Test.YtcjjphioeneiiaaGreatDoorPkSB9
import Derived.Test.YtcjjphioeneiiaaGreatDoorPkSB8
import Derived.Shelf.Abstract
import Derived.Test.YtcjjphioeneiiaaGreatDoorPkSB2
import Derived.Test.YtcjjphioeneiiaaGreatDoorPkSB3
import Derived.Deep.LoopGhost
/- The program's layer 10: blank, letter, digit, inName, run, line, strings.Clone, name. Conditions: those that each theorem names. -/
namespace Go.Proofs.YtcjjphioeneiiaaGreatDoor
open Go.RowKit
set_option linter.unusedVariables false
set_option maxRecDepth 100000

theorem xblank_any (c : UInt8) (w : World) : Calls Tryz.prog 50 #[.int .u8 (c.toNat : Int)] w fun e w' => e = .returned (.bool (blankB c)) ∧ w = w' := by
 have HL : Hid (blankB c = decide (c.toNat = 32 ∨ c.toNat = 10 ∨ c.toNat = 9)) := Lib.hid rfl
 obtain ⟨n, hn⟩ : ∃ n, n = c.toNat := ⟨_, rfl⟩
 simp only [← hn] at HL
 rw [← hn]
 clear hn
 by_cases h32 : n = 32
 ·subst h32
  have HT : Hid (blankB c = true) := Lib.hid (HL.out.trans (by decide))
  go_enter Tryz.func50, Tryz.ntmps50
  go_wp2
  go_ret
  exact ⟨ret_bool' HT.out.symm, rfl⟩
 by_cases h10 : n = 10
 ·subst h10
  have HT : Hid (blankB c = true) := Lib.hid (HL.out.trans (by decide))
  go_enter Tryz.func50, Tryz.ntmps50
  go_wp2
  go_ret
  exact ⟨ret_bool' HT.out.symm, rfl⟩
 by_cases h9 : n = 9
 ·subst h9
  have HT : Hid (blankB c = true) := Lib.hid (HL.out.trans (by decide))
  go_enter Tryz.func50, Tryz.ntmps50
  go_wp2
  go_ret
  exact ⟨ret_bool' HT.out.symm, rfl⟩
 have e32 : ((n : Int) == 32) = false := beq_false_of_ne (by omega)
 have f32 : ¬ (n : Int) = 32 := by omega
 have e10 : ((n : Int) == 10) = false := beq_false_of_ne (by omega)
 have f10 : ¬ (n : Int) = 10 := by omega
 have e9 : ((n : Int) == 9) = false := beq_false_of_ne (by omega)
 have f9 : ¬ (n : Int) = 9 := by omega
 have HT : Hid (blankB c = false) := Lib.hid (HL.out.trans (decide_eq_false (by omega)))
 go_enter Tryz.func50, Tryz.ntmps50
 go_wp2
 go_ret
 exact ⟨ret_bool' HT.out.symm, rfl⟩
theorem xletter_any (c : UInt8) (w : World) : Calls Tryz.prog 103 #[.int .u8 (c.toNat : Int)] w fun e w' => e = .returned (.bool (letterB c)) ∧ w = w' := by
 have HL : Hid (letterB c = ((decide (97 ≤ c.toNat) && decide (c.toNat ≤ 122)) || (decide (65 ≤ c.toNat) && decide (c.toNat ≤ 90)))) := Lib.hid rfl
 obtain ⟨n, hn⟩ : ∃ n, n = c.toNat := ⟨_, rfl⟩
 rw [← hn] at HL ⊢
 clear hn
 by_cases h1 : 97 ≤ n <;> by_cases h2 : n ≤ 122 <;> by_cases h3 : 65 ≤ n <;> by_cases h4 : n ≤ 90
 all_goals first
  | omega
  | (have g1 : decide ((97 : Int) ≤ (n : Int)) = decide (97 ≤ n) := decide_eq_decide.mpr (by omega)
     have g2 : decide ((n : Int) ≤ 122) = decide (n ≤ 122) := decide_eq_decide.mpr (by omega)
     have g3 : decide ((65 : Int) ≤ (n : Int)) = decide (65 ≤ n) := decide_eq_decide.mpr (by omega)
     have g4 : decide ((n : Int) ≤ 90) = decide (n ≤ 90) := decide_eq_decide.mpr (by omega)
     simp only [h1, h2, h3, h4, decide_true, decide_false] at g1 g2 g3 g4 HL
     go_enter Tryz.func103, Tryz.ntmps103
     go_wp2
     go_ret
     exact ⟨ret_bool' HL.out.symm, rfl⟩)
theorem xdigit_any (c : UInt8) (w : World) : Calls Tryz.prog 105 #[.int .u8 (c.toNat : Int)] w fun e w' => e = .returned (.bool (digitB c)) ∧ w = w' := by
 have HL : Hid (digitB c = (decide (48 ≤ c.toNat) && decide (c.toNat ≤ 57))) := Lib.hid rfl
 obtain ⟨n, hn⟩ : ∃ n, n = c.toNat := ⟨_, rfl⟩
 rw [← hn] at HL ⊢
 clear hn
 by_cases h1 : 48 ≤ n <;> by_cases h2 : n ≤ 57
 all_goals first
  | omega
  | (have g1 : decide ((48 : Int) ≤ (n : Int)) = decide (48 ≤ n) := decide_eq_decide.mpr (by omega)
     have g2 : decide ((n : Int) ≤ 57) = decide (n ≤ 57) := decide_eq_decide.mpr (by omega)
     simp only [h1, h2, decide_true, decide_false] at g1 g2 HL
     go_enter Tryz.func105, Tryz.ntmps105
     go_wp2
     go_ret
     exact ⟨ret_bool' HL.out.symm, rfl⟩)
theorem xinname_any (c : UInt8) (w : World) : Calls Tryz.prog 174 #[.int .u8 (c.toNat : Int)] w fun e w' => e = .returned (.bool (nameCh c)) ∧ w = w' := by
 have HL : Hid (nameCh c = (letterB c || (digitB c || decide (c.toNat = 95)))) := Lib.hid rfl
 have H1 := Lib.hid (fun w => xletter_any c w)
 have H2 := Lib.hid (fun w => xdigit_any c w)
 obtain ⟨b1, hb1⟩ : ∃ b, b = letterB c := ⟨_, rfl⟩
 obtain ⟨b2, hb2⟩ : ∃ b, b = digitB c := ⟨_, rfl⟩
 rw [← hb1] at HL H1
 rw [← hb2] at HL H2
 clear hb1 hb2
 obtain ⟨n, hn⟩ : ∃ n, n = c.toNat := ⟨_, rfl⟩
 rw [← hn] at HL H1 H2 ⊢
 clear hn
 cases b1 with
 | true =>
   go_enter Tryz.func174, Tryz.ntmps174
   go_wp2_with (go_at_call 103; refine (H1.out _).mono ?_; rintro e w2 ⟨rfl, rfl⟩)
   go_ret
   exact ⟨ret_bool' HL.out.symm, rfl⟩
 | false =>
   cases b2 with
   | true =>
     go_enter Tryz.func174, Tryz.ntmps174
     go_wp2_with (first
      | (go_at_call 103; refine (H1.out _).mono ?_; rintro e w2 ⟨rfl, rfl⟩)
      | (go_at_call 105; refine (H2.out _).mono ?_; rintro e w2 ⟨rfl, rfl⟩))
     go_ret
     exact ⟨ret_bool' HL.out.symm, rfl⟩
   | false =>
     by_cases h95 : n = 95
     ·have e95 : ((n : Int) == 95) = true := by rw [h95]; rfl
      have HT : Hid (nameCh c = true) := Lib.hid (HL.out.trans (by rw [h95]; rfl))
      clear HL h95
      go_enter Tryz.func174, Tryz.ntmps174
      go_wp2_with (first
       | (go_at_call 103; refine (H1.out _).mono ?_; rintro e w2 ⟨rfl, rfl⟩)
       | (go_at_call 105; refine (H2.out _).mono ?_; rintro e w2 ⟨rfl, rfl⟩))
      go_ret
      exact ⟨ret_bool' HT.out.symm, rfl⟩
     ·have e95 : ((n : Int) == 95) = false := beq_false_of_ne (by omega)
      have HT : Hid (nameCh c = false) := Lib.hid (HL.out.trans (by rw [decide_eq_false h95]; rfl))
      clear HL h95
      go_enter Tryz.func174, Tryz.ntmps174
      go_wp2_with (first
       | (go_at_call 103; refine (H1.out _).mono ?_; rintro e w2 ⟨rfl, rfl⟩)
       | (go_at_call 105; refine (H2.out _).mono ?_; rintro e w2 ⟨rfl, rfl⟩))
      go_ret
      exact ⟨ret_bool' HT.out.symm, rfl⟩

theorem enters_digit : Enters Tryz.prog 105 := fun _ _ => rfl
theorem enters_inname : Enters Tryz.prog 174 := fun _ _ => rfl
set_option maxHeartbeats 2000000 in
/-- run, by whatever kind of bytes. -/
theorem xrun_any (f : UInt8 → Bool) (k : Nat) (henter : Enters Tryz.prog k) (hk : ∀ (c : UInt8) w, Calls Tryz.prog k #[.int .u8 (c.toNat : Int)] w fun e w' => e = .returned (.bool (f c)) ∧ w = w') (t : List UInt8) (w : World) (hl : t.length ≤ 1000000) :
 Calls Tryz.prog 173 #[.string (strOf t), .func (.func k) #[] #[]] w fun e w' => e = .returned (.int .i64 (runN f t : Int)) ∧ w = w' := by
 have hent : ∀ (args : Array Value) (w : World), (callFunc k args).run Tryz.prog w = .ok (.enter k args) w := henter
 have HK := Lib.hid hk
 clear henter hk
 obtain ⟨n, hn⟩ : ∃ n, n = t.length := ⟨_, rfl⟩
 obtain ⟨str, hstr⟩ : ∃ str, str = strOf t := ⟨_, rfl⟩
 have hsz : str.size = n := by rw [hstr, str_size, hn]
 rw [← hn] at hl
 rw [← hstr]
 have HN := Lib.hid hn
 have HST := Lib.hid hstr
 clear hn hstr
 go_enter Tryz.func173, Tryz.ntmps173
 go_wp2
 go_loop [5] (fun x => ∃ i : Nat, i ≤ n ∧ x = .int .i64 (i : Int) ∧ runN f t = i + runN f (t.drop i)) (fun x => n - (intOf x).toNat)
 case atStart => exact ⟨0, Nat.zero_le _, rfl, by rw [List.drop_zero, Nat.zero_add]⟩
 case round =>
  obtain ⟨i, hi, rfl, hw⟩ := hrel
  have HW := Lib.hid hw
  clear hw
  by_cases hlt : i < n
  ·have g3 : decide ((i : Int) < (n : Int)) = true := decide_eq_true (by omega)
   obtain ⟨a, ha⟩ : ∃ a, t[i]? = some a := ⟨_, List.getElem?_eq_getElem (by have := HN.out; omega)⟩
   have hsk : i < str.size := by omega
   have EK : str[i]'hsk = a := by
    obtain ⟨q1, q2⟩ := List.getElem?_eq_some_iff.mp ha
    have := HST.out
    subst this
    exact q2
   have hk0 : 0 ≤ (i : Int) := by omega
   have hk1 : (i : Int) < (n : Int) := by omega
   have HKA := Lib.hid (fun w => HK.out a w)
   have HA := Lib.hid ha
   clear ha
   cases hfa : f a with
   | true =>
     have HS : Hid (runN f t = (i + 1) + runN f (t.drop (i + 1))) := Lib.hid (HW.out.trans (runN_step HA.out hfa))
     rw [hfa] at HKA
     clear hfa
     go_wp2_with (go_at_fn k; (try rw [EK]); refine (HKA.out _).mono ?_; rintro e w2 ⟨rfl, rfl⟩)
     go_round
     case rel => exact ⟨i + 1, by omega, by go_num, HS.out⟩
     case measure => simp [intOf]; omega
   | false =>
     have HS : Hid (runN f t = i) := Lib.hid (HW.out.trans (runN_stop HA.out hfa))
     rw [hfa] at HKA
     clear hfa
     go_wp2_with (go_at_fn k; (try rw [EK]); refine (HKA.out _).mono ?_; rintro e w2 ⟨rfl, rfl⟩)
     go_ret
     exact ⟨by rw [HS.out]; rfl, rfl⟩
  ·have g3 : decide ((i : Int) < (n : Int)) = false := decide_eq_false (by omega)
   have HS : Hid (runN f t = i) := Lib.hid (HW.out.trans (runN_end (by have := HN.out; omega)))
   go_wp2
   go_ret
   exact ⟨by rw [HS.out]; rfl, rfl⟩
theorem xrun_name (t : List UInt8) (w : World) (hl : t.length ≤ 1000000) :
 Calls Tryz.prog 173 #[.string (strOf t), .func (.func 174) #[] #[]] w fun e w' => e = .returned (.int .i64 (wordRun t : Int)) ∧ w = w' := by
 rw [← runN_name]
 exact xrun_any nameCh 174 enters_inname xinname_any t w hl
theorem xrun_digit (t : List UInt8) (w : World) (hl : t.length ≤ 1000000) :
 Calls Tryz.prog 173 #[.string (strOf t), .func (.func 105) #[] #[]] w fun e w' => e = .returned (.int .i64 ((digs t).length : Int)) ∧ w = w' := by
 rw [← runN_digs]
 exact xrun_any digitB 105 enters_digit xdigit_any t w hl

theorem ib_any (s : ByteArray) (c : Int) (w : World) : Calls Tryz.prog 102 #[.string s, .int .u8 c] w fun e w' => e = .returned (.int .i64 (Lib.indexByte s.data.toList c.toNat.toUInt8)) ∧ w' = w := Any.strings_IndexByte lib_lays s c w
/-- line: the bytes ahead of the first line feed, or all. -/
theorem xline_any (t : List UInt8) (w : World) (hl : t.length ≤ 1000000) : Calls Tryz.prog 52 #[.string (strOf t)] w fun e w' => e = .returned (.int .i64 (upto 10 t : Int)) ∧ w = w' := by
 have HI : Hid (∀ w, Calls Tryz.prog 102 #[.string (strOf t), .int .u8 10] w fun e w' => e = .returned (.int .i64 (if upto 10 t < t.length then (upto 10 t : Int) else -1)) ∧ w' = w) := Lib.hid (fun w => by
  have h := ib_any (strOf t) 10 w
  have e : Lib.indexByte (strOf t).data.toList (10 : Int).toNat.toUInt8 = if upto 10 t < t.length then (upto 10 t : Int) else -1 := upto_index 10 t
  rw [e] at h
  exact h)
 have hle := upto_le 10 t
 obtain ⟨u, hu⟩ : ∃ u, u = upto 10 t := ⟨_, rfl⟩
 obtain ⟨n, hn⟩ : ∃ n, n = t.length := ⟨_, rfl⟩
 obtain ⟨str, hstr⟩ : ∃ str, str = strOf t := ⟨_, rfl⟩
 have hsz : str.size = n := by rw [hstr, str_size, hn]
 rw [← hu, ← hn, ← hstr] at HI
 rw [← hu, ← hn] at hle
 rw [← hu, ← hstr]
 rw [← hn] at hl
 clear hu hn hstr
 by_cases h : u < n
 ·rw [if_pos h] at HI
  have g1 : decide ((u : Int) ≥ 0) = true := decide_eq_true (by omega)
  have g2 : (0 : Int) ≤ (u : Int) := by omega
  go_enter Tryz.func52, Tryz.ntmps52
  go_wp2_with (go_at_call 102; refine (HI.out _).mono ?_; rintro e w2 ⟨rfl, rfl⟩)
  go_ret
  exact ⟨rfl, rfl⟩
 ·rw [if_neg h] at HI
  obtain rfl : u = n := by omega
  go_enter Tryz.func52, Tryz.ntmps52
  go_wp2_with (go_at_call 102; refine (HI.out _).mono ?_; rintro e w2 ⟨rfl, rfl⟩)
  go_ret
  exact ⟨rfl, rfl⟩

theorem cl_any (s : ByteArray) (w : World) (hs : s.size ≤ 1000000) : Calls Tryz.prog 108 #[.string s] w fun e w' => e = .returned (.string s) ∧ Below w.heap.size w w' := by
 have H : Hid (∀ w, Calls Tryz.prog 181 #[.string s] w fun e w' => e = .returned (.string s) ∧ Below w.heap.size w w') := Lib.hid (fun w => Any.stringslite_Clone lcl_lays s w (by omega))
 clear hs
 go_enter Tryz.func108, Tryz.ntmps108
 go_wp2_with (go_at_call 181; refine (H.out _).mono ?_; rintro e w2 ⟨rfl, hb⟩)
 go_ret
 exact ⟨rfl, hb⟩

set_option maxHeartbeats 2000000 in
theorem xname_any (t : List UInt8) (w : World) (hl : t.length ≤ 1000000) : Calls Tryz.prog 104 #[.string (strOf t)] w fun e w' => e = .returned (oneV (⟨1, t.take (wordRun t), 0, false, 0⟩, wordRun t)) ∧ Below w.heap.size w w' := by
 have hres : Tryz.f104.results = #[.cell 2 86, .tmp 3] := by kernel_rfl
 have HRS := Lib.hid hres
 have HR := Lib.hid (fun w => xrun_name t w hl)
 have hle := wordRun_le t
 obtain ⟨k, hk⟩ : ∃ k, k = wordRun t := ⟨_, rfl⟩
 obtain ⟨n, hn⟩ : ∃ n, n = t.length := ⟨_, rfl⟩
 obtain ⟨str, hstr⟩ : ∃ str, str = strOf t := ⟨_, rfl⟩
 have hsz : str.size = n := by rw [hstr, str_size, hn]
 rw [← hk, ← hstr] at HR
 rw [← hk, ← hn] at hle
 rw [← hk, ← hstr]
 obtain ⟨sd, hsd⟩ : ∃ sd, sd = strOf (t.take k) := ⟨_, rfl⟩
 have hex : str.extract 0 k = sd := by rw [hsd, hstr, strOf_extract, List.drop_zero]
 have HC := Lib.hid (fun w => cl_any sd w (by rw [hsd, str_size, List.length_take]; omega))
 have HSD := Lib.hid hsd
 have g3 : (k : Int) ≤ (n : Int) := by omega
 have g4 : 0 ≤ (k : Int) := by omega
 have HB0 : Hid (Below w.heap.size w (w.alloc (.cells #[.int .i64 0, .string ⟨#[]⟩, .int .u64 0, .bool false, .int .i64 0] 86))) := Lib.hid ((Below.refl _ w).alloc (Nat.le_refl _) _)
 clear hk hn hstr hsd hres hl
 go_enter Tryz.func104, Tryz.ntmps104
 go_wp2_with (first
  | (go_at_call 173; refine (HR.out _).mono ?_; rintro e w2 ⟨rfl, rfl⟩)
  | (go_at_call 108; refine (HC.out _).mono ?_; rintro e w1 ⟨rfl, hb1⟩; have hbx := (hb1.block w.heap.size (by simp)).trans (heap_alloc_new w (.cells #[.int .i64 0, .string ⟨#[]⟩, .int .u64 0, .bool false, .int .i64 0] 86)); have r0 := obj_cell hbx 0; have q0 := obj_free hbx 0; have r1 := obj_cell hbx 1; have q1 := obj_free hbx 1; have r2 := obj_cell hbx 2; have q2 := obj_free hbx 2; have r3 := obj_cell hbx 3; have q3 := obj_free hbx 3; have r4 := obj_cell hbx 4; have q4 := obj_free hbx 4; have HBX := Lib.hid hbx; have HB1 := Lib.hid (HB0.out.trans (hb1.mono HB0.out.size)); clear hb1 hbx))
 refine bodyPost_ret (v := oneV (⟨1, t.take k, 0, false, 0⟩, k)) ?_ rfl ⟨rfl, box_below HB1.out (Nat.le_refl _) _ _ _ _ _⟩
 simp only [results, HRS.out, oneV, tkV]
 go_simp
 rw [HSD.out]
end Go.Proofs.YtcjjphioeneiiaaGreatDoor

/- The program's layer 10: the text that a text begins with, by the library's Cut, CutPrefix and strings.Builder. Conditions: LexEnv; those that each theorem names. -/
namespace Go.Proofs.YtcjjphioeneiiaaGreatDoor
open Go.RowKit
set_option linter.unusedVariables false
set_option maxRecDepth 100000

theorem cq_any (t : List UInt8) (w : World) : Calls Tryz.prog 175 #[.string (strOf t), .string ⟨#[39]⟩] w fun e w' => e = .returned (.tuple #[.string (strOf (Lib.trimPrefix t [39])), .bool (Lib.hasPrefix t [39])]) ∧ w' = w := Any.strings_CutPrefix lcp_lays (strOf t) ⟨#[39]⟩ w
/-- What Cut answers at a quote. -/
def cutV (t : List UInt8) : Value := if upto 39 t < t.length then .tuple #[.string (strOf (t.take (upto 39 t))), .string (strOf (t.drop (upto 39 t + 1))), .bool true] else .tuple #[.string (strOf t), .string ⟨#[]⟩, .bool false]
theorem ct_any (t : List UInt8) (hl : t.length ≤ 1000000) (w : World) (env : LexEnv w) :
 Calls Tryz.prog 178 #[.string (strOf t), .string ⟨#[39]⟩] w fun e w' => e = .returned (cutV t) ∧ ∃ n, w' = w.drewN n := by
 obtain ⟨m, hm⟩ := env.mxl
 have hz : (strOf t).size = t.length := str_size t
 refine Calls.mono (Any.strings_Cut lct_lays (strOf t) ⟨#[39]⟩ m w (by omega) hm) ?_
 rintro e w' ⟨rfl, hw⟩
 refine ⟨?_, hw⟩
 have e1 : Lib.cut (strOf t).data.toList (⟨#[39]⟩ : ByteArray).data.toList = if upto 39 t < t.length then (t.take (upto 39 t), t.drop (upto 39 t + 1), true) else (t, [], false) := cut_at 39 t
 rw [e1]
 unfold cutV
 by_cases h : upto 39 t < t.length
 ·rw [if_pos h, if_pos h]; rfl
 ·rw [if_neg h, if_neg h]; rfl
theorem sb_str (B b : Nat) (bs l : List UInt8) (w : World) (h : Lib.IsBuilder 182 5 B b (cellsOf bs) w) (hl : bs.length + l.length ≤ 1000000) (hBw : B ≤ w.heap.size) :
 Calls Tryz.prog 179 #[.pointer (some ⟨b, 0, none⟩), .string (strOf l)] w fun e w' => ∃ v, e = .returned v ∧ Lib.IsBuilder 182 5 B b (cellsOf (bs ++ l)) w' ∧ Below B w w' := by
 have hz : (strOf l).size = l.length := str_size l
 refine Calls.mono (Any.Builder_WriteString sbt_lays sbt_extra B b (cellsOf bs) (strOf l) w h (by rw [cellsOf_length]; omega) hBw) ?_
 rintro e w' ⟨rfl, h1, h2⟩
 exact ⟨_, rfl, .inr (by rw [show cellsOf (bs ++ l) = cellsOf bs ++ cellsOf l by simp [cellsOf]]; exact h1), h2⟩
theorem sb_tx (B b : Nat) (bs : List UInt8) (w : World) (h : Lib.IsBuilder 182 5 B b (cellsOf bs) w) (hBw : B ≤ w.heap.size) :
 Calls Tryz.prog 180 #[.pointer (some ⟨b, 0, none⟩)] w fun e w' => e = .returned (.string (strOf bs)) ∧ Below B w w' :=
 Any.Builder_String_any sbs_lays sbs_extra B b bs w h hBw
theorem pre39_yes {l : List UInt8} (h : Lib.hasPrefix l [39] = true) : ∃ d, l[0]? = some d ∧ d.toNat = 39 := by
 cases l with
 | nil => simp [Lib.hasPrefix] at h
 | cons d q =>
   simp [Lib.hasPrefix, List.isPrefixOf] at h
   subst h
   exact ⟨39, rfl, rfl⟩
theorem pre39_no {l : List UInt8} (h : Lib.hasPrefix l [39] = false) : ∀ d, l[0]? = some d → d.toNat ≠ 39 := by
 intro d hd e
 cases l with
 | nil => simp at hd
 | cons c q =>
   simp at hd
   subst hd
   have : c = 39 := UInt8.toNat_inj.mp e
   subst this
   simp [Lib.hasPrefix, List.isPrefixOf] at h

set_option maxHeartbeats 8000000 in
theorem xtext_any (t : List UInt8) (c : UInt8) (w : World) (env : LexEnv w) (hl : t.length ≤ 10000) (h0 : t[0]? = some c) (h39 : c.toNat = 39) :
 Calls Tryz.prog 107 #[.string (strOf t)] w fun e w' => e = .returned (oneV (txtR t)) ∧ Below w.heap.size w w' := by
 have hres : Tryz.f107.results = #[.cell 2 86, .tmp 3] := by kernel_rfl
 have HRS := Lib.hid hres
 have hn0 : 1 ≤ t.length := by have := (List.getElem?_eq_some_iff.mp h0).1; omega
 obtain ⟨wb, hwb⟩ : ∃ wb, wb = w.alloc (.cells #[.int .i64 0, .string ⟨#[]⟩, .int .u64 0, .bool false, .int .i64 0] 86) := ⟨_, rfl⟩
 have hsb : wb.heap.size = w.heap.size + 1 := by rw [hwb]; simp
 have HB0 : Hid (Below w.heap.size w wb) := Lib.hid (by rw [hwb]; exact (Below.refl _ w).alloc (Nat.le_refl _) _)
 have HBX : Hid (wb.heap[w.heap.size]? = some (.cells #[.int .i64 0, .string ⟨#[]⟩, .int .u64 0, .bool false, .int .i64 0] 86 (0, 0))) := Lib.hid (by rw [hwb]; exact heap_alloc_new w _)
 have HE0 := Lib.hid (env.carry HB0.out)
 have HI0 : Hid (Lib.IsBuilder 182 5 (w.heap.size + 1) (w.heap.size + 1) (cellsOf []) (wb.alloc (.cells #[.pointer none, .slice none 0 0] 182))) := Lib.hid (by have h := Lib.fresh_isBuilder 182 5 wb; rw [hsb] at h; exact h)
 have HBE0 : Hid (Below wb.heap.size wb (wb.alloc (.cells #[.pointer none, .slice none 0 0] 182))) := Lib.hid ((Below.refl _ wb).alloc (Nat.le_refl _) _)
 obtain ⟨n, hn⟩ : ∃ n, n = t.length := ⟨_, rfl⟩
 obtain ⟨str, hstr⟩ : ∃ str, str = strOf t := ⟨_, rfl⟩
 have hsz : str.size = n := by rw [hstr, str_size, hn]
 obtain ⟨s1, hs1⟩ : ∃ s1, s1 = strOf (t.drop 1) := ⟨_, rfl⟩
 have hex1 : str.extract 1 n = s1 := by rw [hs1, hstr, strOf_extract, hn, List.take_length]
 have g1 : (1 : Int) ≤ (n : Int) := by omega
 have HS1 := Lib.hid hs1
 have HN := Lib.hid hn
 have H0 := Lib.hid h0
 have HT0 := Lib.hid (textAt_start t)
 rw [← hn] at hl hn0
 rw [← hstr]
 rw [hsb] at HBE0
 clear hn hstr hs1 h0 env hres
 go_enter Tryz.func107, Tryz.ntmps107
 go_wp2
 rw [← hwb]
 go_loopg [5] (n - 1) (fun g x wr => ∃ (i : Nat) (o : List UInt8), x = .string (strOf (t.drop i)) ∧ i + g = n ∧ 1 ≤ i ∧ TextAt t o i ∧ o.length ≤ i ∧ Lib.IsBuilder 182 5 (w.heap.size + 1) (w.heap.size + 1) (cellsOf o) wr ∧ Below (w.heap.size + 1) wb wr)
 case atStart => exact ⟨1, [], by rw [HS1.out], by omega, Nat.le_refl _, HT0.out, Nat.zero_le _, HI0.out, HBE0.out⟩
 case round =>
  obtain ⟨i, o, rfl, hig, hi1, hta, hoi, hib, hbe⟩ := hrel
  obtain ⟨g0, hg0⟩ : ∃ g0, g0 = gk := ⟨_, rfl⟩
  subst hg0
  have HTA := Lib.hid hta
  have HIB := Lib.hid hib
  have HBE := Lib.hid hbe
  clear hta hib hbe
  have hsw := HBE.out.size
  rw [hsb] at hsw
  have HEW := Lib.hid (HE0.out.carry (hsb ▸ HBE.out))
  have HCT := Lib.hid (ct_any (t.drop i) (by rw [List.length_drop, ← HN.out]; omega) wr HEW.out)
  have hul := upto_le 39 (t.drop i)
  have hdl : (t.drop i).length = n - i := by rw [List.length_drop, ← HN.out]
  have hbx := (HBE.out.block w.heap.size (Nat.lt_succ_self _)).trans HBX.out
  have r0 := obj_cell hbx 0
  have q0 := obj_free hbx 0
  have r1 := obj_cell hbx 1
  have q1 := obj_free hbx 1
  have r2 := obj_cell hbx 2
  have q2 := obj_free hbx 2
  have r3 := obj_cell hbx 3
  have q3 := obj_free hbx 3
  have r4 := obj_cell hbx 4
  have q4 := obj_free hbx 4
  have HBN : Hid (∀ j, Below (w.heap.size + 1) wb (wr.drewN j)) := Lib.hid (fun j => ⟨HBE.out.os, HBE.out.tape, HBE.out.output, HBE.out.size, HBE.out.block⟩)
  have HIN : Hid (∀ j, Lib.IsBuilder 182 5 (w.heap.size + 1) (w.heap.size + 1) (cellsOf o) (wr.drewN j)) := Lib.hid (fun j => HIB.out)
  have hsn : ∀ j, w.heap.size + 1 ≤ (wr.drewN j).heap.size := fun j => hsw
  have HSN := Lib.hid hsn
  clear hsn hbx
  obtain ⟨rs, hrs⟩ : ∃ rs, rs = strOf (t.drop i) := ⟨_, rfl⟩
  have hpv := (rfl : cutV (t.drop i) = cutV (t.drop i))
  conv at hpv => rhs; unfold cutV
  by_cases hq : upto 39 (t.drop i) < (t.drop i).length
  ·rw [if_pos hq] at hpv
   obtain ⟨k, hk⟩ : ∃ k, k = upto 39 (t.drop i) := ⟨_, rfl⟩
   obtain ⟨l, hlv⟩ : ∃ l, l = t.drop (i + k + 1) := ⟨_, rfl⟩
   have hll : l.length = n - (i + k + 1) := by rw [hlv, List.length_drop, ← HN.out]
   rw [← hk, List.drop_drop, show i + (k + 1) = i + k + 1 by omega, ← hlv] at hpv
   rw [hpv] at HCT
   have hkn : i + k + 1 ≤ n := by rw [← hk] at hq; omega
   have hpl : ((t.drop i).take k).length = k := by rw [List.length_take]; omega
   have HW1 := Lib.hid (fun u h hw => sb_str (w.heap.size + 1) (w.heap.size + 1) o ((t.drop i).take k) u h (by omega) hw)
   have HW2 := Lib.hid (fun u h hw => sb_str (w.heap.size + 1) (w.heap.size + 1) (o ++ (t.drop i).take k) [39] u h (by rw [List.length_append, hpl]; simp; omega) hw)
   rw [show strOf [39] = ⟨#[39]⟩ from rfl] at HW2
   have HW3 := Lib.hid (fun u h hw => sb_tx (w.heap.size + 1) (w.heap.size + 1) (o ++ (t.drop i).take k) u h hw)
   have HCQ := Lib.hid (fun u => cq_any l u)
   obtain ⟨pc, hpc⟩ : ∃ pc, pc = strOf ((t.drop i).take k) := ⟨_, rfl⟩
   obtain ⟨bh, hbh⟩ : ∃ bh, bh = strOf l := ⟨_, rfl⟩
   have hbz : bh.size = n - (i + k + 1) := by rw [hbh, str_size, hll]
   obtain ⟨z, hz⟩ : ∃ z, z = i + k + 1 := ⟨_, rfl⟩
   have hgz : (n : Int) - ((n - z : Nat) : Int) = (z : Int) := by omega
   have hlz : l[0]? = t[i + k + 1]? := by rw [hlv, List.getElem?_drop, Nat.add_zero]
   have hol : ((o ++ (t.drop i).take k) ++ [39]).length ≤ i + k + 2 := by rw [List.length_append, List.length_append, hpl]; simp; omega
   rw [← hrs, ← hpc, ← hbh] at HCT
   rw [← hpc] at HW1
   rw [← hbh] at HCQ
   rw [← hz] at hbz hkn
   have HZ := Lib.hid hz
   cases hp : Lib.hasPrefix l [39] with
   | true =>
     obtain ⟨d, hd, hd39⟩ := pre39_yes hp
     rw [hlz] at hd
     have HTN : Hid (TextAt t ((o ++ (t.drop i).take k) ++ [39]) (i + k + 2)) := Lib.hid (by
      have h := txt_more HTA.out hi1 hq (d := d) (by rw [← hk]; exact hd) hd39
      rw [← hk] at h
      exact h)
     have htr : Lib.trimPrefix l [39] = t.drop (i + k + 2) := by
      unfold Lib.trimPrefix
      rw [hp, if_pos rfl, hlv, List.drop_drop]
      rfl
     rw [hp, htr] at HCQ
     have hkn2 : i + k + 2 ≤ n := by
      have := (List.getElem?_eq_some_iff.mp hd).1
      rw [← HN.out] at this; omega
     clear htr hp hd hd39 hlz hz hbh hpc hll hlv hpl hk hq hpv hdl hul hgz
     rw [← hrs]
     clear hrs
     go_wp2_with (first
      | (go_at_call 178; refine HCT.out.mono ?_; rintro e w2 ⟨rfl, n2, rfl⟩)
      | (go_at_call 179; with_reducible refine (HW1.out _ (HIN.out n2) (HSN.out n2)).mono ?_; rintro e w3 ⟨v3, rfl, hib3, hb3⟩; have HIB3 := Lib.hid hib3; have HB3 := Lib.hid ((HBN.out n2).trans hb3); have HS3 := Lib.hid (Nat.le_trans (HSN.out n2) hb3.size); clear hib3 hb3)
      | (go_at_call 179; with_reducible refine (HW2.out _ HIB3.out HS3.out).mono ?_; rintro e w4 ⟨v4, rfl, hib4, hb4⟩; have HIB4 := Lib.hid hib4; have HB4 := Lib.hid (HB3.out.trans hb4); clear hib4 hb4)
      | (go_at_call 175; refine (HCQ.out _).mono ?_; rintro e w5 ⟨rfl, rfl⟩))
     go_roundg (n - (i + k + 2))
     case measure => omega
     case rel => exact ⟨i + k + 2, _, rfl, by omega, by omega, HTN.out, hol, HIB4.out, HB4.out⟩
   | false =>
     have HTE : Hid (txtR t = (⟨3, o ++ (t.drop i).take k, 0, false, 0⟩, z)) := Lib.hid (by
      have hr := textR_shut (t.drop i) hq (fun d h' => pre39_no hp d (by rw [hlz, ← h', List.getElem?_drop, ← hk]; rfl))
      have h := txt_end HTA.out hi1 H0.out h39 hr
      unfold txtR
      rw [h, ← hk, if_pos (by dsimp only; omega), HZ.out]
      rfl)
     have htr : Lib.trimPrefix l [39] = l := by
      unfold Lib.trimPrefix
      rw [hp, if_neg (by decide)]
     rw [hp, htr, ← hbh] at HCQ
     clear htr hp hlz hz hbh hpc hll hlv hpl hk hq hpv hdl hul hol
     rw [← hrs]
     clear hrs
     go_wp2_with (first
      | (go_at_call 178; refine HCT.out.mono ?_; rintro e w2 ⟨rfl, n2, rfl⟩)
      | (go_at_call 179; with_reducible refine (HW1.out _ (HIN.out n2) (HSN.out n2)).mono ?_; rintro e w3 ⟨v3, rfl, hib3, hb3⟩; have HIB3 := Lib.hid hib3; have HB3 := Lib.hid ((HBN.out n2).trans hb3); have HS3 := Lib.hid (Nat.le_trans (HSN.out n2) hb3.size); clear hib3 hb3)
      | (go_at_call 175; refine (HCQ.out _).mono ?_; rintro e w5 ⟨rfl, rfl⟩)
      | (go_at_call 180; refine (HW3.out _ HIB3.out HS3.out).mono ?_; rintro e w4 ⟨rfl, hb4⟩; have hb5 := HB3.out.trans hb4; have hby := (hb5.block w.heap.size (Nat.lt_succ_self _)).trans HBX.out; have r0 := obj_cell hby 0; have q0 := obj_free hby 0; have r1 := obj_cell hby 1; have q1 := obj_free hby 1; have r2 := obj_cell hby 2; have q2 := obj_free hby 2; have r3 := obj_cell hby 3; have q3 := obj_free hby 3; have r4 := obj_cell hby 4; have q4 := obj_free hby 4; have HB4 := Lib.hid hb5; clear hb4 hb5 hby))
     rw [HTE.out]
     refine bodyPost_ret (v := oneV (⟨3, o ++ (t.drop i).take k, 0, false, 0⟩, z)) ?_ rfl ⟨rfl, box_below (HB0.out.trans (HB4.out.mono (Nat.le_succ _))) (Nat.le_refl _) _ _ _ _ _⟩
     simp only [results, HRS.out, oneV, tkV]
     go_simp
     try rfl
  ·rw [if_neg hq] at hpv
   have HTE : Hid (txtR t = (tk0, 0)) := Lib.hid (by
    unfold txtR
    rw [txt_none HTA.out H0.out h39 (textR_none _ hq), if_neg (by decide)])
   rw [hpv, ← hrs] at HCT
   rw [← hrs]
   clear hq hpv hdl hul hrs
   go_wp2_with (go_at_call 178; refine HCT.out.mono ?_; rintro e w2 ⟨rfl, n2, rfl⟩)
   rw [HTE.out]
   refine bodyPost_ret (v := oneV (tk0, 0)) ?_ rfl ⟨rfl, box_below (HB0.out.trans ((HBN.out n2).mono (Nat.le_succ _))) (Nat.le_refl _) _ _ _ _ _⟩
   simp only [results, HRS.out, oneV, tkV, tk0]
   go_simp
   try rfl
end Go.Proofs.YtcjjphioeneiiaaGreatDoor
