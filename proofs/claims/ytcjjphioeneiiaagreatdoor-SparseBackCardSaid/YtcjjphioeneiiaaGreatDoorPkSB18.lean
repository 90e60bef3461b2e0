/- Several texts in one: IwC, IwE. What each proves, and its conditions, stands at its own head. -/
import Derived.Test.YtcjjphioeneiiaaGreatDoorPkSB14
import Derived.Laws.RangeAny
import Derived.Lib.OthersKept
import Derived.LoopTactic
import Derived.Test.YtcjjphioeneiiaaGreatDoorPkSB0
import Derived.Test.YtcjjphioeneiiaaGreatDoorPkSB3
import Derived.Sort.OwnSorted
import Derived.Sort.Walk0
import Derived.Deep.DeepMust
/- The program's layer 9: Right, by a range over a text's runes. Conditions: those that each theorem names. -/
namespace Go.Proofs.YtcjjphioeneiiaaGreatDoor
open Go.RowKit
set_option linter.unusedVariables false
set_option maxRecDepth 100000

/-- What a rune at a place says: it may stand there. -/
def mayN (k n : Nat) : Bool := letterN n || (!(decide (k = 0)) && (digitN n || decide (n = 95)))
theorem mayN_char (c : UInt8) (k : Nat) (hk : k ≠ 0) : mayN k c.toNat = charB c := by
 unfold mayN charB letterB letterN digitN
 rw [decide_eq_false hk]
 simp [Bool.or_assoc]
theorem mayN_first (c : UInt8) : mayN 0 c.toNat = letterB c := by simp [mayN, letterB, letterN]
theorem mayN_high (k n : Nat) (h : 128 ≤ n) : mayN k n = false := by
 unfold mayN letterN digitN
 rw [decide_eq_false (show ¬ n ≤ 122 by omega), decide_eq_false (show ¬ n ≤ 90 by omega), decide_eq_false (show ¬ n ≤ 57 by omega), decide_eq_false (show ¬ n = 95 by omega)]
 simp
theorem name_all (t : List UInt8) (h1 : t ≠ []) (h2 : t.length ≤ 12) (hw : wordsL.contains t = false) (h : ∀ (k : Nat) c, t[k]? = some c → mayN k c.toNat = true) : nameB t = true := by
 cases t with
 | nil => exact absurd rfl h1
 | cons c r =>
   have hf : letterB c = true := by rw [← mayN_first]; exact h 0 c rfl
   have ha : (c :: r).all charB = true := by
    rw [List.all_eq_true]
    intro x hx
    obtain ⟨j, hj⟩ := List.getElem?_of_mem hx
    have hm := h j x hj
    by_cases h0 : j = 0
    ·subst h0
     rw [mayN_first] at hm
     unfold charB; rw [hm]; rfl
    ·rw [mayN_char x j h0] at hm; exact hm
   unfold nameB
   rw [hw, ha, decide_eq_true h2, decide_eq_true (show 1 ≤ (c :: r).length by simp)]
   simp [hf]
theorem name_off (t : List UInt8) {k : Nat} {c : UInt8} (hk : t[k]? = some c) (h : mayN k c.toNat = false) : nameB t = false := by
 cases t with
 | nil => simp at hk
 | cons a r =>
   by_cases h0 : k = 0
   ·subst h0
    simp at hk
    subst hk
    rw [mayN_first] at h
    unfold nameB
    simp [h]
   ·rw [mayN_char c k h0] at h
    have ha : (a :: r).all charB = false := by rw [List.all_eq_false]; exact ⟨c, List.mem_of_getElem? hk, by rw [h]; simp⟩
    unfold nameB
    simp only [ha, Bool.and_false, Bool.false_and]
theorem pright_empty (w : World) : Calls Tryz.prog 126 #[.string (strOf [])] w fun e w' => e = .returned (.bool (nameB [])) ∧ Below w.heap.size w w' := by
 obtain ⟨str, hstr⟩ : ∃ str, str = strOf [] := ⟨_, rfl⟩
 have hl : str.toList = [] := by rw [hstr, str_list]
 have hi : str.toList.isEmpty = true := by rw [hl]; rfl
 have HF : Hid (nameB [] = false) := Lib.hid rfl
 rw [← hstr]
 clear hstr
 go_enter Tryz.func126, Tryz.ntmps126
 go_wp2
 go_ret
 exact ⟨ret_bool' HF.out.symm, Below.refl _ _⟩
theorem pright_long (w : World) (t : List UInt8) (h : 12 < t.length) : Calls Tryz.prog 126 #[.string (strOf t)] w fun e w' => e = .returned (.bool (nameB t)) ∧ Below w.heap.size w w' := by
 have HF : Hid (nameB t = false) := Lib.hid (by unfold nameB; rw [decide_eq_false (show ¬ t.length ≤ 12 by omega)]; simp)
 obtain ⟨n, hn⟩ : ∃ n, n = t.length := ⟨_, rfl⟩
 obtain ⟨str, hstr⟩ : ∃ str, str = strOf t := ⟨_, rfl⟩
 have hsz : str.size = n := by rw [hstr, str_size, hn]
 have hl : ¬ str.toList = [] := by rw [hstr, str_list]; intro e; rw [e] at h; simp at h
 have hi : str.toList.isEmpty = false := by rw [List.isEmpty_eq_false_iff]; exact hl
 rw [← hstr]
 have g2 : decide ((n : Int) > 12) = true := decide_eq_true (by omega)
 clear hstr hn h
 go_enter Tryz.func126, Tryz.ntmps126
 go_wp2
 go_ret
 exact ⟨ret_bool' HF.out.symm, Below.refl _ _⟩
theorem pright_word (w : World) (t : List UInt8) (h1 : t ≠ []) (h : t.length ≤ 12) (hw : wordsL.contains t = true) : Calls Tryz.prog 126 #[.string (strOf t)] w fun e w' => e = .returned (.bool (nameB t)) ∧ Below w.heap.size w w' := by
 have HF : Hid (nameB t = false) := Lib.hid (by unfold nameB; rw [hw]; simp)
 have HW := Lib.hid (fun w => pword_any t w)
 rw [hw] at HW
 obtain ⟨n, hn⟩ : ∃ n, n = t.length := ⟨_, rfl⟩
 obtain ⟨str, hstr⟩ : ∃ str, str = strOf t := ⟨_, rfl⟩
 have hsz : str.size = n := by rw [hstr, str_size, hn]
 have hl : ¬ str.toList = [] := by rw [hstr, str_list]; exact h1
 have hi : str.toList.isEmpty = false := by rw [List.isEmpty_eq_false_iff]; exact hl
 rw [← hstr] at HW ⊢
 have g2 : decide ((n : Int) > 12) = false := decide_eq_false (by omega)
 clear hstr hn h h1 hw
 go_enter Tryz.func126, Tryz.ntmps126
 go_wp2_with (go_at_call 199; refine (HW.out _).mono ?_; rintro e w2 ⟨rfl, rfl⟩)
 go_ret
 exact ⟨ret_bool' HF.out.symm, Below.refl _ _⟩
set_option maxHeartbeats 2000000 in
theorem pright_loop (w : World) (t : List UInt8) (h1 : t ≠ []) (h : t.length ≤ 12) (hw : wordsL.contains t = false) : Calls Tryz.prog 126 #[.string (strOf t)] w fun e w' => e = .returned (.bool (nameB t)) ∧ Below w.heap.size w w' := by
 have HALLN := Lib.hid (name_all t h1 h hw)
 have HW := Lib.hid (fun w => pword_any t w)
 rw [hw] at HW
 obtain ⟨n, hn⟩ : ∃ n, n = t.length := ⟨_, rfl⟩
 obtain ⟨str, hstr⟩ : ∃ str, str = strOf t := ⟨_, rfl⟩
 have hsz : str.size = n := by rw [hstr, str_size, hn]
 have hl : ¬ str.toList = [] := by rw [hstr, str_list]; exact h1
 have hi : str.toList.isEmpty = false := by rw [List.isEmpty_eq_false_iff]; exact hl
 rw [← hstr] at HW ⊢
 rw [← hn] at h
 have g2 : decide ((n : Int) > 12) = false := decide_eq_false (by omega)
 have HN := Lib.hid hn
 have HST := Lib.hid hstr
 clear hstr hn h1 hw
 go_enter Tryz.func126, Tryz.ntmps126
 go_wp2_with (go_at_call 199; refine (HW.out _).mono ?_; rintro e w2 ⟨rfl, rfl⟩; clear HW)
 clear hl hi
 go_loopw [] (fun wr => ∃ k : Nat, k ≤ n ∧ wr.heap[w.heap.size]? = some (.stringIter str k) ∧ Below w.heap.size w wr ∧ ∀ (i : Nat) c, i < k → t[i]? = some c → mayN i c.toNat = true) (fun wr => n - wr.iterPos w.heap.size)
 case atStart =>
  refine ⟨0, Nat.zero_le _, ?_, (Below.refl _ w).alloc (Nat.le_refl _) _, fun i c hi => absurd hi (Nat.not_lt_zero _)⟩
  exact World.iter_heap w str 0
 case round =>
  obtain ⟨k, hk, hit, hbel, hgood⟩ := hrel
  by_cases hp : k < n
  ·have hps : k < str.size := by omega
   obtain ⟨c, hc⟩ : ∃ c, t[k]? = some c := ⟨_, List.getElem?_eq_getElem (by have := HN.out; omega)⟩
   have hsc : str[k]'hps = c := by
    obtain ⟨h1, h2⟩ := List.getElem?_eq_some_iff.mp hc
    have := HST.out
    subst this
    exact h2
   have hcn := c.toNat_lt
   have hnx : ∀ ty, (Instr.next (.pointer (some ⟨w.heap.size, 0, none⟩)) true ty).run Tryz.prog wr = _ := fun ty => Lib.run_next_any_at wr w.heap.size str k ty hit hps
   obtain ⟨r, wd, hdec, hr31, hmay, hw1⟩ : ∃ r wd, Utf8.decode str k = (r, wd) ∧ r ≤ 2147483647 ∧ mayN k r = mayN k c.toNat ∧ (mayN k r = true → wd = 1) := by
    refine ⟨(Utf8.decode str k).1, (Utf8.decode str k).2, rfl, decode_le str k, ?_⟩
    by_cases h128 : c.toNat < 128
    ·rw [decode_ascii str k hps (by rw [hsc]; exact h128), hsc]
     exact ⟨rfl, fun _ => rfl⟩
    ·have := (decode_high str k hps (by rw [hsc]; omega)).1
     refine ⟨by rw [mayN_high k _ (by omega), mayN_high k _ (by omega)], fun hm => ?_⟩
     rw [mayN_high k _ (by omega)] at hm
     cases hm
   rw [hdec] at hnx
   have HBE := Lib.hid (Lib.below_iterAt hbel (k := w.heap.size) (Nat.le_refl _) str (k + wd))
   have HIT2 := Lib.hid (Lib.iterAt_heap wr w.heap.size str k (k + wd) hit)
   have HIT := Lib.hid hit
   have HLE := Lib.hid (fun w => pletter_any r hr31 w)
   have HDI := Lib.hid (fun w => pdigit_any r hr31 w)
   have HMAY : Hid (mayN k c.toNat = (letterN r || (!(decide (k = 0)) && (digitN r || decide (r = 95))))) := Lib.hid hmay.symm
   have HWD : Hid (mayN k c.toNat = true → wd = 1) := Lib.hid (fun h => hw1 (hmay.trans h))
   have HG := Lib.hid hgood
   have HC := Lib.hid hc
   clear hit hbel hgood hc hsc hcn hdec hr31 hmay hw1
   have HOK : Hid (mayN k c.toNat = true → ∀ (i : Nat) x, i < k + 1 → t[i]? = some x → mayN i x.toNat = true) := Lib.hid (fun hm i x hi hx => by
    by_cases hik : i < k
    ·exact HG.out i x hik hx
    ·have : i = k := by omega
     subst this
     have e1 := HC.out.symm.trans hx
     injection e1 with e1
     subst e1
     exact hm)
   have HNO : Hid (mayN k c.toNat = false → nameB t = false) := Lib.hid (fun hm => name_off t HC.out hm)
   clear HG HC HN
   cases hlr : letterN r with
   | true =>
     rw [hlr] at HLE HMAY
     have HM : Hid (mayN k c.toNat = true) := Lib.hid (by rw [HMAY.out]; rfl)
     obtain rfl := HWD.out HM.out
     clear hlr
     go_wp2_with (first
      | (go_at_call 200; refine (HLE.out _).mono ?_; rintro e w2 ⟨rfl, rfl⟩; clear HLE))
     refine ⟨⟨k + 1, by omega, HIT2.out, HBE.out, HOK.out HM.out⟩, ?_⟩
     simp only [World.iterPos, HIT2.out, HIT.out]
     omega
   | false =>
     rw [hlr] at HLE HMAY
     clear hlr
     by_cases hk0 : k = 0
     ·subst hk0
      have HF : Hid (nameB t = false) := Lib.hid (HNO.out (by rw [HMAY.out]; rfl))
      go_wp2_with (first
       | (go_at_call 200; refine (HLE.out _).mono ?_; rintro e w2 ⟨rfl, rfl⟩; clear HLE))
      go_ret
      exact ⟨ret_bool' HF.out.symm, by have := HBE.out; rw [Nat.zero_add] at this; exact this⟩
     ·have gk : ¬ ((k : Int) = 0) := by omega
      have gk2 : ((k : Int) == 0) = false := beq_false_of_ne gk
      rw [decide_eq_false hk0] at HMAY
      cases hdr : digitN r with
      | true =>
        rw [hdr] at HDI HMAY
        have HM : Hid (mayN k c.toNat = true) := Lib.hid (by rw [HMAY.out]; rfl)
        obtain rfl := HWD.out HM.out
        clear hdr hk0
        go_wp2_with (first
         | (go_at_call 200; refine (HLE.out _).mono ?_; rintro e w2 ⟨rfl, rfl⟩; clear HLE)
         | (go_at_call 201; refine (HDI.out _).mono ?_; rintro e w2 ⟨rfl, rfl⟩; clear HDI))
        refine ⟨⟨k + 1, by omega, HIT2.out, HBE.out, HOK.out HM.out⟩, ?_⟩
        simp only [World.iterPos, HIT2.out, HIT.out]
        omega
      | false =>
        rw [hdr] at HDI HMAY
        clear hdr hk0
        by_cases h95 : r = 95
        ·have HM : Hid (mayN k c.toNat = true) := Lib.hid (by rw [HMAY.out, decide_eq_true h95]; rfl)
         obtain rfl := HWD.out HM.out
         clear HMAY
         subst h95
         go_wp2_with (first
          | (go_at_call 200; refine (HLE.out _).mono ?_; rintro e w2 ⟨rfl, rfl⟩; clear HLE)
          | (go_at_call 201; refine (HDI.out _).mono ?_; rintro e w2 ⟨rfl, rfl⟩; clear HDI))
         refine ⟨⟨k + 1, by omega, HIT2.out, HBE.out, HOK.out HM.out⟩, ?_⟩
         simp only [World.iterPos, HIT2.out, HIT.out]
         omega
        ·have HF : Hid (nameB t = false) := Lib.hid (HNO.out (by rw [HMAY.out, decide_eq_false h95]; rfl))
         have g95 : ¬ ((r : Int) = 95) := by omega
         have g95b : ((r : Int) == 95) = false := beq_false_of_ne g95
         clear HMAY h95
         go_wp2_with (first
          | (go_at_call 200; refine (HLE.out _).mono ?_; rintro e w2 ⟨rfl, rfl⟩; clear HLE)
          | (go_at_call 201; refine (HDI.out _).mono ?_; rintro e w2 ⟨rfl, rfl⟩; clear HDI))
         go_ret
         exact ⟨ret_bool' HF.out.symm, HBE.out⟩
  ·obtain rfl : k = n := by omega
   have hnx : ∀ ty, (Instr.next (.pointer (some ⟨w.heap.size, 0, none⟩)) true ty).run Tryz.prog wr = _ := fun ty => Lib.run_next_end_at wr w.heap.size str k ty hit (by omega)
   have HF : Hid (nameB t = true) := Lib.hid (HALLN.out (fun i c hi => hgood i c (by have := (List.getElem?_eq_some_iff.mp hi).1; have := HN.out; omega) hi))
   have HBE := Lib.hid hbel
   clear hit hbel hgood
   go_wp2
   go_ret
   exact ⟨ret_bool' HF.out.symm, HBE.out⟩
theorem pright_any (w : World) (t : List UInt8) : Calls Tryz.prog 126 #[.string (strOf t)] w fun e w' => e = .returned (.bool (nameB t)) ∧ Below w.heap.size w w' := by
 by_cases h0 : t = []
 ·subst h0; exact pright_empty w
 ·by_cases h12 : 12 < t.length
  ·exact pright_long w t h12
  ·cases hw : wordsL.contains t with
   | true => exact pright_word w t h0 (by omega) hw
   | false => exact pright_loop w t h0 (by omega) hw
end Go.Proofs.YtcjjphioeneiiaaGreatDoor

/- The program's layer 9: Once, by the library's Clone and Sort; what is asked of layer 9. Conditions: those that each theorem names. -/
namespace Go.Proofs.YtcjjphioeneiiaaGreatDoor
open Go.RowKit Go.Sort
set_option linter.unusedVariables false
set_option maxRecDepth 100000

/-- The library's order of texts. -/
def sortL (ts : List (List UInt8)) : List (List UInt8) := ts.mergeSort fun x y => decide (x ≤ y)
theorem ahead_lt (a b : List UInt8) : ahead a b = decide (a < b) := by rw [← less_ahead, bytesLess_eq]
theorem sortL_length (ts : List (List UInt8)) : (sortL ts).length = ts.length := by simp [sortL]
theorem sort_rise (ts : List (List UInt8)) : riseB (sortL ts) = onceB ts := by
 have tr : ∀ a b c : List UInt8, decide (a ≤ b) = true → decide (b ≤ c) = true → decide (a ≤ c) = true := fun a b c h1 h2 => by simp only [decide_eq_true_eq] at *; exact List.le_trans h1 h2
 have to : ∀ a b : List UInt8, (decide (a ≤ b) || decide (b ≤ a)) = true := fun a b => by simp only [Bool.or_eq_true, decide_eq_true_eq]; exact List.le_total a b
 have hp : (sortL ts).Pairwise (fun a b => decide (a ≤ b) = true) := List.pairwise_mergeSort tr to ts
 have hperm : (sortL ts).Perm ts := List.mergeSort_perm ts _
 have hn : onceB (sortL ts) = onceB ts := by
  have h : onceB (sortL ts) = true ↔ onceB ts = true := by rw [onceB_iff, onceB_iff]; exact hperm.nodup_iff
  cases h1 : onceB (sortL ts) <;> cases h2 : onceB ts <;> simp_all
 rw [← hn]
 cases hr : riseB (sortL ts) with
 | true => exact (rise_once hr).symm
 | false =>
   cases ho : onceB (sortL ts) with
   | false => rfl
   | true =>
     have hnd := (onceB_iff _).mp ho
     have : riseB (sortL ts) = true := riseB_all (fun k a b ha hb => by
      obtain ⟨i1, e1⟩ := List.getElem?_eq_some_iff.mp ha
      obtain ⟨i2, e2⟩ := List.getElem?_eq_some_iff.mp hb
      have q1 := (List.pairwise_iff_getElem.mp hp) k (k + 1) i1 i2 (by omega)
      have q2 := (List.pairwise_iff_getElem.mp hnd) k (k + 1) i1 i2 (by omega)
      rw [e1, e2] at q1 q2
      rw [ahead_lt, decide_eq_true_eq]
      rw [decide_eq_true_eq] at q1
      exact Classical.byContradiction fun h => q2 (List.le_antisymm q1 (List.not_lt.mp h)))
     rw [this] at hr
     cases hr
theorem txts_enc (ts : List (List UInt8)) : txts ts = ts.map encStr := rfl
theorem clone_txts (w : World) {A : Option Addr} {cap n : Nat} {ts : List (List UInt8)} (hs : Sl w A cap (txts ts)) (hn : n = ts.length) (hl : n ≤ 1000000) :
 Calls Tryz.prog 206 #[.slice A n cap] w fun e w' => ∃ v, e = .returned v ∧ w'.ownsRow w.heap.size 9 1 v n (txts ts) ∧ Below w.heap.size w w' := by
 rcases A with _ | a
 ·have h0 := hs.nil rfl
  have hle := hs.le
  rw [txts_length] at hle
  have hts : ts = [] := List.eq_nil_of_length_eq_zero (by omega)
  subst hts h0
  have hn0 : n = 0 := hn
  subst hn0
  have he : ∀ w : World, (binOp .eql 78 (.slice none 0 0) (.slice none 0 0)).run Tryz.prog w = .ok (.bool true) w := fun _ => rfl
  clear hs hl hle hn
  go_enter Tryz.func206, Tryz.ntmps206
  go_wp2
  go_ret
  exact ⟨_, rfl, ⟨rfl, .inl ⟨rfl, rfl⟩⟩, Below.refl _ _⟩
 ·have he : ∀ w : World, (binOp .eql 78 (.slice (some a) n cap) (.slice none 0 0)).run Tryz.prog w = .ok (.bool false) w := fun _ => rfl
  have HB := Lib.hid hs
  have HN := Lib.hid hn
  have HL := Lib.hid hl
  clear hs hn hl
  go_enter Tryz.func206, Tryz.ntmps206
  go_wp2_with (at_builtin; refine wpList_append_sl rfl _ _ rfl w.heap.size _ 0 [] rfl (own0_str w) _ _ _ ts rfl HN.out (HB.out.alloc _) (by have := HN.out; have := HL.out; simp; omega) (by simp) ?_; go_must (intro v2 w2 hown2 hgrow2))
  go_ret
  rw [List.nil_append, List.length_nil, Nat.zero_add, ← HN.out] at hown2
  exact ⟨_, rfl, hown2, ((Below.refl _ _).alloc (Nat.le_refl _) _).grown hgrow2 (by simp) (fun k e => by cases e; exact Nat.le_refl _)⟩
theorem sort_txts (w : World) {base n : Nat} {v : Value} {ts : List (List UInt8)} (hown : w.ownsRow base 9 1 v n (txts ts)) (hl : n ≤ 1000000) :
 Calls Tryz.prog 207 #[v] w fun e w' => e = .returned (.tuple #[]) ∧ w'.ownsRow base 9 1 v n (txts (sortL ts)) ∧ w.grownBy w' v.ownBlock := by
 have hn : n = ts.length := by have := (Sl.own hown).1; rwa [txts_length] at this
 rcases hown.2 with ⟨rfl, h0⟩ | ⟨g, cap, cur, rfl, hbase, hb, h1, h2, h3, h4⟩
 ·have hts : ts = [] := List.eq_nil_of_length_eq_zero (by omega)
  subst hts
  obtain rfl : n = 0 := hn
  refine (Any.slices_Sort_string_none srts_lays none 0 w).mono ?_
  rintro e w' ⟨rfl, rfl⟩
  exact ⟨rfl, by rw [show sortL [] = [] from by simp [sortL]]; exact hown, World.grownBy.refl _ _⟩
 ·subst hn
  refine (Any.slices_Sort_string srts_lays g 0 cap ts w (holds_of_block hb (by simpa [txts_enc] using h4)) ((Array.getElem?_eq_some_iff.1 hb).1) (by omega)).mono ?_
  rintro e w' ⟨rfl, m, os, rfl⟩
  refine ⟨rfl, ?_, grownBy_sorted _⟩
  exact ownsRow_sorted (sortL_length ts) hbase hb h1 h2 h3
theorem ponce_any (w : World) {A : Option Addr} {cap n : Nat} {ts : List (List UInt8)} (hs : Sl w A cap (txts ts)) (hn : n = ts.length) (hl : n ≤ 1000000) :
 Calls Tryz.prog 128 #[.slice A n cap] w fun e w' => e = .returned (.bool (onceB ts)) ∧ Below w.heap.size w w' := by
 have HC := Lib.hid (clone_txts w hs hn hl)
 have HS := Lib.hid (fun (w1 : World) (v : Value) (h : w1.ownsRow w.heap.size 9 1 v n (txts ts)) => sort_txts w1 h hl)
 have HN := Lib.hid hn
 clear hs hn hl
 go_enter Tryz.func128, Tryz.ntmps128
 go_wp2_with (first
  | (go_at_call 206
     refine HC.out.mono ?_
     rintro e w1 ⟨v, rfl, ho1, hb1⟩
     have HO1 := Lib.hid ho1
     have HB1 := Lib.hid hb1
     clear ho1 hb1 HC)
  | (go_at_call 207
     refine (HS.out _ _ HO1.out).mono ?_
     rintro e w2 ⟨rfl, ho2, hg2⟩
     have HB2 := Lib.hid (HB1.out.grown hg2 HB1.out.size (fun k hk => (HO1.out.lt k hk).1))
     obtain ⟨_, A2, cap2, hv, hs2⟩ := Sl.own ho2
     rw [txts_length] at hv
     have HR := Lib.hid (prise_any w2 hs2 rfl)
     rw [sort_rise] at HR
     subst hv
     clear ho2 hg2 hs2 HO1 HB1 HS)
  | (go_at_call 131
     refine HR.out.mono ?_
     rintro e w3 ⟨rfl, hb3⟩
     have HB3 := Lib.hid (show Below w.heap.size w w3 from by obtain ⟨k, rfl⟩ := hb3; exact below_drewN HB2.out k)
     clear hb3))
 go_ret
 exact ⟨rfl, HB3.out⟩
theorem id_ok : IdOk :=
 ⟨pright_any, fun w A cap n ts hs hn => (prise_any w hs hn).mono (fun e w' h => ⟨h.1, by obtain ⟨k, rfl⟩ := h.2; exact below_drewN (Below.refl _ _) k⟩), fun w A cap n ts hs hn hl => ponce_any w hs hn hl⟩
end Go.Proofs.YtcjjphioeneiiaaGreatDoor
