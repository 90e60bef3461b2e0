/- The program's layer 10: blank, letter, digit, inName, run, line, strings.Clone, name. Conditions: those that each theorem names. -/
import Derived.Test.YtpnlbadmomaebaaDoorLwE
import Derived.Test.YtpnlbadmomaebaaDoorLyIb
import Derived.Test.YtpnlbadmomaebaaDoorLyCl
import Derived.Shelf.Abstract
import Derived.Test.YtpnlbadmomaebaaDoorObj
namespace Go.Proofs.YtpnlbadmomaebaaDoor
open Go.RowKit
set_option linter.unusedVariables false
set_option maxRecDepth 100000

theorem xblank_any (c : UInt8) (w : World) : Calls Tryd.prog 15 #[.int .u8 (c.toNat : Int)] w fun e w' => e = .returned (.bool (blankB c)) ∧ w = w' := by
  have HL : Hid (blankB c = decide (c.toNat = 32 ∨ c.toNat = 10 ∨ c.toNat = 9)) := Lib.hid rfl
  obtain ⟨n, hn⟩ : ∃ n, n = c.toNat := ⟨_, rfl⟩
  simp only [← hn] at HL
  rw [← hn]
  clear hn
  by_cases h32 : n = 32
  · subst h32
    have HT : Hid (blankB c = true) := Lib.hid (HL.out.trans (by decide))
    go_enter Tryd.func15, Tryd.ntmps15
    go_wp2
    go_ret
    exact ⟨ret_bool' HT.out.symm, rfl⟩
  by_cases h10 : n = 10
  · subst h10
    have HT : Hid (blankB c = true) := Lib.hid (HL.out.trans (by decide))
    go_enter Tryd.func15, Tryd.ntmps15
    go_wp2
    go_ret
    exact ⟨ret_bool' HT.out.symm, rfl⟩
  by_cases h9 : n = 9
  · subst h9
    have HT : Hid (blankB c = true) := Lib.hid (HL.out.trans (by decide))
    go_enter Tryd.func15, Tryd.ntmps15
    go_wp2
    go_ret
    exact ⟨ret_bool' HT.out.symm, rfl⟩
  have e32 : ((n : Int) == 32) = false := beq_false_of_ne (by omega)
  have f32 : ¬ (n : Int) = 32 := by omega
  have e10 : ((n : Int) == 10) = false := beq_false_of_ne (by omega)
  have f10 : ¬ (n : Int) = 10 := by omega
  have e9 : ((n : Int) == 9) = false := beq_false_of_ne (by omega)
  have f9 : ¬ (n : Int) = 9 := by omega
  have HT : Hid (blankB c = false) := Lib.hid (HL.out.trans (decide_eq_false (by omega)))
  go_enter Tryd.func15, Tryd.ntmps15
  go_wp2
  go_ret
  exact ⟨ret_bool' HT.out.symm, rfl⟩
theorem xletter_any (c : UInt8) (w : World) : Calls Tryd.prog 25 #[.int .u8 (c.toNat : Int)] w fun e w' => e = .returned (.bool (letterB c)) ∧ w = w' := by
  have HL : Hid (letterB c = ((decide (97 ≤ c.toNat) && decide (c.toNat ≤ 122)) || (decide (65 ≤ c.toNat) && decide (c.toNat ≤ 90)))) := Lib.hid rfl
  obtain ⟨n, hn⟩ : ∃ n, n = c.toNat := ⟨_, rfl⟩
  rw [← hn] at HL ⊢
  clear hn
  by_cases h1 : 97 ≤ n <;> by_cases h2 : n ≤ 122 <;> by_cases h3 : 65 ≤ n <;> by_cases h4 : n ≤ 90
  all_goals first
    | omega
    | (have g1 : decide ((97 : Int) ≤ (n : Int)) = decide (97 ≤ n) := decide_eq_decide.mpr (by omega)
       have g2 : decide ((n : Int) ≤ 122) = decide (n ≤ 122) := decide_eq_decide.mpr (by omega)
       have g3 : decide ((65 : Int) ≤ (n : Int)) = decide (65 ≤ n) := decide_eq_decide.mpr (by omega)
       have g4 : decide ((n : Int) ≤ 90) = decide (n ≤ 90) := decide_eq_decide.mpr (by omega)
       simp only [h1, h2, h3, h4, decide_true, decide_false] at g1 g2 g3 g4 HL
       go_enter Tryd.func25, Tryd.ntmps25
       go_wp2
       go_ret
       exact ⟨ret_bool' HL.out.symm, rfl⟩)
theorem xdigit_any (c : UInt8) (w : World) : Calls Tryd.prog 27 #[.int .u8 (c.toNat : Int)] w fun e w' => e = .returned (.bool (digitB c)) ∧ w = w' := by
  have HL : Hid (digitB c = (decide (48 ≤ c.toNat) && decide (c.toNat ≤ 57))) := Lib.hid rfl
  obtain ⟨n, hn⟩ : ∃ n, n = c.toNat := ⟨_, rfl⟩
  rw [← hn] at HL ⊢
  clear hn
  by_cases h1 : 48 ≤ n <;> by_cases h2 : n ≤ 57
  all_goals first
    | omega
    | (have g1 : decide ((48 : Int) ≤ (n : Int)) = decide (48 ≤ n) := decide_eq_decide.mpr (by omega)
       have g2 : decide ((n : Int) ≤ 57) = decide (n ≤ 57) := decide_eq_decide.mpr (by omega)
       simp only [h1, h2, decide_true, decide_false] at g1 g2 HL
       go_enter Tryd.func27, Tryd.ntmps27
       go_wp2
       go_ret
       exact ⟨ret_bool' HL.out.symm, rfl⟩)
theorem xinname_any (c : UInt8) (w : World) : Calls Tryd.prog 39 #[.int .u8 (c.toNat : Int)] w fun e w' => e = .returned (.bool (nameCh c)) ∧ w = w' := by
  have HL : Hid (nameCh c = (letterB c || (digitB c || decide (c.toNat = 95)))) := Lib.hid rfl
  have H1 := Lib.hid (fun w => xletter_any c w)
  have H2 := Lib.hid (fun w => xdigit_any c w)
  obtain ⟨b1, hb1⟩ : ∃ b, b = letterB c := ⟨_, rfl⟩
  obtain ⟨b2, hb2⟩ : ∃ b, b = digitB c := ⟨_, rfl⟩
  rw [← hb1] at HL H1
  rw [← hb2] at HL H2
  clear hb1 hb2
  obtain ⟨n, hn⟩ : ∃ n, n = c.toNat := ⟨_, rfl⟩
  rw [← hn] at HL H1 H2 ⊢
  clear hn
  cases b1 with
  | true =>
    go_enter Tryd.func39, Tryd.ntmps39
    go_wp2_with (go_at_call 25; refine (H1.out _).mono ?_; rintro e w2 ⟨rfl, rfl⟩)
    go_ret
    exact ⟨ret_bool' HL.out.symm, rfl⟩
  | false =>
    cases b2 with
    | true =>
      go_enter Tryd.func39, Tryd.ntmps39
      go_wp2_with (first
        | (go_at_call 25; refine (H1.out _).mono ?_; rintro e w2 ⟨rfl, rfl⟩)
        | (go_at_call 27; refine (H2.out _).mono ?_; rintro e w2 ⟨rfl, rfl⟩))
      go_ret
      exact ⟨ret_bool' HL.out.symm, rfl⟩
    | false =>
      by_cases h95 : n = 95
      · have e95 : ((n : Int) == 95) = true := by rw [h95]; rfl
        have HT : Hid (nameCh c = true) := Lib.hid (HL.out.trans (by rw [h95]; rfl))
        clear HL h95
        go_enter Tryd.func39, Tryd.ntmps39
        go_wp2_with (first
          | (go_at_call 25; refine (H1.out _).mono ?_; rintro e w2 ⟨rfl, rfl⟩)
          | (go_at_call 27; refine (H2.out _).mono ?_; rintro e w2 ⟨rfl, rfl⟩))
        go_ret
        exact ⟨ret_bool' HT.out.symm, rfl⟩
      · have e95 : ((n : Int) == 95) = false := beq_false_of_ne (by omega)
        have HT : Hid (nameCh c = false) := Lib.hid (HL.out.trans (by rw [decide_eq_false h95]; rfl))
        clear HL h95
        go_enter Tryd.func39, Tryd.ntmps39
        go_wp2_with (first
          | (go_at_call 25; refine (H1.out _).mono ?_; rintro e w2 ⟨rfl, rfl⟩)
          | (go_at_call 27; refine (H2.out _).mono ?_; rintro e w2 ⟨rfl, rfl⟩))
        go_ret
        exact ⟨ret_bool' HT.out.symm, rfl⟩

theorem enters_digit : Enters Tryd.prog 27 := fun _ _ => rfl
theorem enters_inname : Enters Tryd.prog 39 := fun _ _ => rfl
set_option maxHeartbeats 2000000 in
/-- run, by whatever kind of bytes. -/
theorem xrun_any (f : UInt8 → Bool) (k : Nat) (henter : Enters Tryd.prog k) (hk : ∀ (c : UInt8) w, Calls Tryd.prog k #[.int .u8 (c.toNat : Int)] w fun e w' => e = .returned (.bool (f c)) ∧ w = w') (t : List UInt8) (w : World) (hl : t.length ≤ 1000000) :
    Calls Tryd.prog 38 #[.string (strOf t), .func (.func k) #[] #[]] w fun e w' => e = .returned (.int .i64 (runN f t : Int)) ∧ w = w' := by
  have hent : ∀ (args : Array Value) (w : World), (callFunc k args).run Tryd.prog w = .ok (.enter k args) w := henter
  have HK := Lib.hid hk
  clear henter hk
  obtain ⟨n, hn⟩ : ∃ n, n = t.length := ⟨_, rfl⟩
  obtain ⟨str, hstr⟩ : ∃ str, str = strOf t := ⟨_, rfl⟩
  have hsz : str.size = n := by rw [hstr, str_size, hn]
  rw [← hn] at hl
  rw [← hstr]
  have HN := Lib.hid hn
  have HST := Lib.hid hstr
  clear hn hstr
  go_enter Tryd.func38, Tryd.ntmps38
  go_wp2
  go_loop [5] (fun x => ∃ i : Nat, i ≤ n ∧ x = .int .i64 (i : Int) ∧ runN f t = i + runN f (t.drop i)) (fun x => n - (intOf x).toNat)
  case atStart => exact ⟨0, Nat.zero_le _, rfl, by rw [List.drop_zero, Nat.zero_add]⟩
  case round =>
    obtain ⟨i, hi, rfl, hw⟩ := hrel
    have HW := Lib.hid hw
    clear hw
    by_cases hlt : i < n
    · have g3 : decide ((i : Int) < (n : Int)) = true := decide_eq_true (by omega)
      obtain ⟨a, ha⟩ : ∃ a, t[i]? = some a := ⟨_, List.getElem?_eq_getElem (by have := HN.out; omega)⟩
      have hsk : i < str.size := by omega
      have EK : str[i]'hsk = a := by
        obtain ⟨q1, q2⟩ := List.getElem?_eq_some_iff.mp ha
        have := HST.out
        subst this
        exact q2
      have hk0 : 0 ≤ (i : Int) := by omega
      have hk1 : (i : Int) < (n : Int) := by omega
      have HKA := Lib.hid (fun w => HK.out a w)
      have HA := Lib.hid ha
      clear ha
      cases hfa : f a with
      | true =>
        have HS : Hid (runN f t = (i + 1) + runN f (t.drop (i + 1))) := Lib.hid (HW.out.trans (runN_step HA.out hfa))
        rw [hfa] at HKA
        clear hfa
        go_wp2_with (go_at_fn k; (try rw [EK]); refine (HKA.out _).mono ?_; rintro e w2 ⟨rfl, rfl⟩)
        go_round
        case rel => exact ⟨i + 1, by omega, by go_num, HS.out⟩
        case measure => simp [intOf]; omega
      | false =>
        have HS : Hid (runN f t = i) := Lib.hid (HW.out.trans (runN_stop HA.out hfa))
        rw [hfa] at HKA
        clear hfa
        go_wp2_with (go_at_fn k; (try rw [EK]); refine (HKA.out _).mono ?_; rintro e w2 ⟨rfl, rfl⟩)
        go_ret
        exact ⟨by rw [HS.out]; rfl, rfl⟩
    · have g3 : decide ((i : Int) < (n : Int)) = false := decide_eq_false (by omega)
      have HS : Hid (runN f t = i) := Lib.hid (HW.out.trans (runN_end (by have := HN.out; omega)))
      go_wp2
      go_ret
      exact ⟨by rw [HS.out]; rfl, rfl⟩
theorem xrun_name (t : List UInt8) (w : World) (hl : t.length ≤ 1000000) :
    Calls Tryd.prog 38 #[.string (strOf t), .func (.func 39) #[] #[]] w fun e w' => e = .returned (.int .i64 (wordRun t : Int)) ∧ w = w' := by
  rw [← runN_name]
  exact xrun_any nameCh 39 enters_inname xinname_any t w hl
theorem xrun_digit (t : List UInt8) (w : World) (hl : t.length ≤ 1000000) :
    Calls Tryd.prog 38 #[.string (strOf t), .func (.func 27) #[] #[]] w fun e w' => e = .returned (.int .i64 ((digs t).length : Int)) ∧ w = w' := by
  rw [← runN_digs]
  exact xrun_any digitB 27 enters_digit xdigit_any t w hl

theorem ib_any (s : ByteArray) (c : Int) (w : World) : Calls Tryd.prog 24 #[.string s, .int .u8 c] w fun e w' => e = .returned (.int .i64 (Lib.indexByte s.data.toList c.toNat.toUInt8)) ∧ w' = w := Any.strings_IndexByte lib_lays s c w
/-- line: the bytes ahead of the first line feed, or all. -/
theorem xline_any (t : List UInt8) (w : World) (hl : t.length ≤ 1000000) : Calls Tryd.prog 17 #[.string (strOf t)] w fun e w' => e = .returned (.int .i64 (upto 10 t : Int)) ∧ w = w' := by
  have HI : Hid (∀ w, Calls Tryd.prog 24 #[.string (strOf t), .int .u8 10] w fun e w' => e = .returned (.int .i64 (if upto 10 t < t.length then (upto 10 t : Int) else -1)) ∧ w' = w) := Lib.hid (fun w => by
    have h := ib_any (strOf t) 10 w
    have e : Lib.indexByte (strOf t).data.toList (10 : Int).toNat.toUInt8 = if upto 10 t < t.length then (upto 10 t : Int) else -1 := upto_index 10 t
    rw [e] at h
    exact h)
  have hle := upto_le 10 t
  obtain ⟨u, hu⟩ : ∃ u, u = upto 10 t := ⟨_, rfl⟩
  obtain ⟨n, hn⟩ : ∃ n, n = t.length := ⟨_, rfl⟩
  obtain ⟨str, hstr⟩ : ∃ str, str = strOf t := ⟨_, rfl⟩
  have hsz : str.size = n := by rw [hstr, str_size, hn]
  rw [← hu, ← hn, ← hstr] at HI
  rw [← hu, ← hn] at hle
  rw [← hu, ← hstr]
  rw [← hn] at hl
  clear hu hn hstr
  by_cases h : u < n
  · rw [if_pos h] at HI
    have g1 : decide ((u : Int) ≥ 0) = true := decide_eq_true (by omega)
    have g2 : (0 : Int) ≤ (u : Int) := by omega
    go_enter Tryd.func17, Tryd.ntmps17
    go_wp2_with (go_at_call 24; refine (HI.out _).mono ?_; rintro e w2 ⟨rfl, rfl⟩)
    go_ret
    exact ⟨rfl, rfl⟩
  · rw [if_neg h] at HI
    obtain rfl : u = n := by omega
    go_enter Tryd.func17, Tryd.ntmps17
    go_wp2_with (go_at_call 24; refine (HI.out _).mono ?_; rintro e w2 ⟨rfl, rfl⟩)
    go_ret
    exact ⟨rfl, rfl⟩

theorem cl_any (s : ByteArray) (w : World) (hs : s.size ≤ 1000000) : Calls Tryd.prog 30 #[.string s] w fun e w' => e = .returned (.string s) ∧ Below w.heap.size w w' := by
  have H : Hid (∀ w, Calls Tryd.prog 45 #[.string s] w fun e w' => e = .returned (.string s) ∧ Below w.heap.size w w') := Lib.hid (fun w => Any.stringslite_Clone lcl_lays s w (by omega))
  clear hs
  go_enter Tryd.func30, Tryd.ntmps30
  go_wp2_with (go_at_call 45; refine (H.out _).mono ?_; rintro e w2 ⟨rfl, hb⟩)
  go_ret
  exact ⟨rfl, hb⟩

def tok0 : Obj := .cells #[.int .i64 0, .string ⟨#[]⟩, .int .u64 0, .bool false, .int .i64 0] 37
set_option maxHeartbeats 2000000 in
theorem xname_any (t : List UInt8) (w : World) (hl : t.length ≤ 1000000) : Calls Tryd.prog 26 #[.string (strOf t)] w fun e w' => e = .returned (oneV (⟨1, t.take (wordRun t), 0, false, 0⟩, wordRun t)) ∧ Below w.heap.size w w' := by
  have hres : Tryd.f26.results = #[.cell 2 37, .tmp 3] := by kernel_rfl
  have HRS := Lib.hid hres
  have HR := Lib.hid (fun w => xrun_name t w hl)
  have hle := wordRun_le t
  obtain ⟨k, hk⟩ : ∃ k, k = wordRun t := ⟨_, rfl⟩
  obtain ⟨n, hn⟩ : ∃ n, n = t.length := ⟨_, rfl⟩
  obtain ⟨str, hstr⟩ : ∃ str, str = strOf t := ⟨_, rfl⟩
  have hsz : str.size = n := by rw [hstr, str_size, hn]
  rw [← hk, ← hstr] at HR
  rw [← hk, ← hn] at hle
  rw [← hk, ← hstr]
  obtain ⟨sd, hsd⟩ : ∃ sd, sd = strOf (t.take k) := ⟨_, rfl⟩
  have hex : str.extract 0 k = sd := by rw [hsd, hstr, strOf_extract, List.drop_zero]
  have HC := Lib.hid (fun w => cl_any sd w (by rw [hsd, str_size, List.length_take]; omega))
  have HSD := Lib.hid hsd
  have g3 : (k : Int) ≤ (n : Int) := by omega
  have g4 : 0 ≤ (k : Int) := by omega
  have HB0 : Hid (Below w.heap.size w (w.alloc (.cells #[.int .i64 0, .string ⟨#[]⟩, .int .u64 0, .bool false, .int .i64 0] 37))) := Lib.hid ((Below.refl _ w).alloc (Nat.le_refl _) _)
  clear hk hn hstr hsd hres hl
  go_enter Tryd.func26, Tryd.ntmps26
  go_wp2_with (first
    | (go_at_call 38; refine (HR.out _).mono ?_; rintro e w2 ⟨rfl, rfl⟩)
    | (go_at_call 30; refine (HC.out _).mono ?_; rintro e w1 ⟨rfl, hb1⟩; have hbx := (hb1.block w.heap.size (by simp)).trans (heap_alloc_new w (.cells #[.int .i64 0, .string ⟨#[]⟩, .int .u64 0, .bool false, .int .i64 0] 37)); have r0 := obj_cell hbx 0; have q0 := obj_free hbx 0; have r1 := obj_cell hbx 1; have q1 := obj_free hbx 1; have r2 := obj_cell hbx 2; have q2 := obj_free hbx 2; have r3 := obj_cell hbx 3; have q3 := obj_free hbx 3; have r4 := obj_cell hbx 4; have q4 := obj_free hbx 4; have HBX := Lib.hid hbx; have HB1 := Lib.hid (HB0.out.trans (hb1.mono HB0.out.size)); clear hb1 hbx))
  refine bodyPost_ret (v := oneV (⟨1, t.take k, 0, false, 0⟩, k)) ?_ rfl ⟨rfl, box_below HB1.out (Nat.le_refl _) _ _ _ _ _⟩
  simp only [results, HRS.out, oneV, tkV]
  go_simp
  rw [HSD.out]
end Go.Proofs.YtpnlbadmomaebaaDoor
