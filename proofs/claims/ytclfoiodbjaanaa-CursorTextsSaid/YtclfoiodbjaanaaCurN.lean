/- CursorTexts. -/
import Derived.Test.YtclfoiodbjaanaaCurM
import Derived.Test.YtclfoiodbjaanaaAppSteps
import Derived.Test.YtclfoiodbjaanaaTxtMath
import Derived.Test.YtclfoiodbjaanaaStrs
import Derived.Test.YtclfoiodbjaanaaVarD
import Derived.Deep.RegionHeld3
namespace Go.Proofs.Ytclfoiodbjaanaa
open Go.RowKit
open Go.Lib (uvarint)
set_option linter.unusedVariables false
set_option maxRecDepth 100000

theorem take_more {P : List UInt8 → Prop} {ts : List (List UInt8)} {k : Nat} (h : ∀ t ∈ ts.take k, P t) (hk : k < ts.length) (h2 : P ts[k]) : ∀ t ∈ ts.take (k + 1), P t := by
  intro t ht
  rw [List.take_add_one, List.getElem?_eq_getElem hk] at ht
  simp only [List.mem_append, Option.toList_some, List.mem_singleton] at ht
  rcases ht with ht | rfl
  · exact h t ht
  · exact h2

set_option maxHeartbeats 1600000 in
theorem texts_walk (w : World) (A : Option Addr) (cap : Nat) (ts : List (List UInt8)) (hs : Sl w A cap (txts ts)) (A2 : Option Addr) (cap2 : Nat) (rest : List UInt8) (hr2 : Bs w A2 cap2 rest) (h472 : rest.length ≤ 140737488351232) :
    Calls Try.prog 5 #[.slice A ts.length cap, .slice A2 rest.length cap2] w fun e w' => e = .returned (.bool true) ∧ Below w.heap.size w w' := by
  have HL : Hid (∀ w, Calls Try.prog 6 #[] w fun e w' => e = .returned (.bool true) ∧ Below w.heap.size w w') := live_any
  obtain ⟨i0, hi, hz0, hz1, hz2⟩ := info_parts info_u8
  have hmax : ts.length ≤ 9223372036854775807 := by have h1 := hs.le; have h2 := hs.max; unfold maxLen at h2; rw [txts_length] at h1; omega
  obtain ⟨m, hm⟩ : ∃ m, m = ts.length := ⟨_, rfl⟩
  obtain ⟨n, hn⟩ : ∃ n, n = rest.length := ⟨_, rfl⟩
  have HS := Lib.hid hs
  have HR2 := Lib.hid hr2
  have HN := Lib.hid hn
  have HM := Lib.hid hm
  rw [← hn, ← hm]
  rw [← hn] at h472
  rw [← hm] at hmax
  clear hs hr2 hn hm
  by_cases h1 : 20 < m
  · have g1 : decide (20 < (m : Int)) = true := decide_eq_true (by omega)
    go_enter Try.func5, Try.ntmps5
    go_wp2_with (go_at_call 6; refine (HL.out _).mono ?_; rintro e w5 ⟨rfl, hb5⟩)
    go_ret
    exact ⟨rfl, hb5⟩
  by_cases h2 : 100 < n
  · have g1 : decide (20 < (m : Int)) = false := decide_eq_false (by omega)
    have g2 : decide (100 < (n : Int)) = true := decide_eq_true (by omega)
    go_enter Try.func5, Try.ntmps5
    go_wp2_with (go_at_call 6; refine (HL.out _).mono ?_; rintro e w5 ⟨rfl, hb5⟩)
    go_ret
    exact ⟨rfl, hb5⟩
  have g1 : decide (20 < (m : Int)) = false := decide_eq_false (by omega)
  have g2 : decide (100 < (n : Int)) = false := decide_eq_false (by omega)
  go_enter Try.func5, Try.ntmps5
  go_wp2
  go_loopw [5, 6] (fun v x wr => ∃ k : Nat, k ≤ m ∧ x = .int .i64 (k : Int) ∧ wr.ownsRow w.heap.size 5 1 v (putTs (ts.take k)).length (cellsOf (putTs (ts.take k))) ∧ (∀ t ∈ ts.take k, t.length ≤ 500) ∧ Below w.heap.size w wr) (fun v x _ => m - (intOf x).toNat)
  case atStart => exact ⟨0, by omega, rfl, own0 w, by simp, (Below.refl _ _).alloc (Nat.le_refl _) _⟩
  case round =>
    obtain ⟨k, hk, rfl, hown, hsmall, hbel⟩ := hrel
    have hplen : (putTs (ts.take k)).length ≤ 10200 := by
      have q1 := putTs_length _ hsmall
      have q2 := HM.out
      rw [List.length_take] at q1
      omega
    have HOW := Lib.hid hown
    have HSM := Lib.hid hsmall
    have HBB := Lib.hid hbel
    clear hown hsmall hbel
    by_cases hlt : k < m
    · have g3 : decide ((k : Int) < (m : Int)) = true := decide_eq_true (by omega)
      have hkl : k < ts.length := by have := HM.out; omega
      obtain ⟨b, off, rfl, hcell0⟩ := HS.out.lt (j := k) (by rw [txts_length]; exact hkl)
      obtain ⟨t, ht⟩ : ∃ t, t = ts[k] := ⟨_, rfl⟩
      have hcell0 : w.cell? ⟨b, off + k, none⟩ = some (.string (strOf t)) := by rw [hcell0, ht]; simp [txts]
      have hoff := World.block_lt_of_cell? w _ hcell0
      have hcell := (HBB.out.cell (p := ⟨b, off + k, none⟩) hoff).trans hcell0
      obtain ⟨N, hN⟩ : ∃ N, N = t.length := ⟨_, rfl⟩
      have hsz : (strOf t).size = N := by rw [hN]; simp [strOf, ByteArray.size]
      have HC0 := Lib.hid hcell0
      have HT := Lib.hid ht
      have HNN := Lib.hid hN
      clear hcell0 ht hN
      by_cases h5 : 500 < N
      · have g4 : decide (500 < (N : Int)) = true := decide_eq_true (by omega)
        go_wp2_with (go_at_call 6; refine (HL.out _).mono ?_; rintro e w5 ⟨rfl, hb5⟩)
        go_ret
        exact ⟨rfl, HBB.out.trans (hb5.mono HBB.out.size)⟩
      · have g4 : decide (500 < (N : Int)) = false := decide_eq_false (by omega)
        have hwr : IntKind.u64.wrap (N : Int) = (N : Int) := IntWalk.u64_in _ (by omega)
        go_wp2
        have hu := Lib.uvarint_length64 (x := N) (by omega)
        have hoffr := World.block_lt_of_cell? wr _ hcell
        have hNt : N = t.length := HNN.out
        have hNT := Lib.hid hNt
        clear hNt
        go_region_held3 (fun w' => w'.cell? ⟨b, off + k, none⟩ = some (.string (strOf t)))
          (first | exact hcell | exact hcell1 | exact hcell2 | exact hcell3 | go_keep)
          (first
          | (go_at_call 19; refine (rput_any N _ (by omega)).mono ?_; rintro e w1 ⟨A1, cap1, rfl, hB1, hb1⟩; have hb1' : Below wr.heap.size wr w1 := ⟨hb1.os, hb1.tape, hb1.output, hb1.size, hb1.block⟩; have hown1 := own_below HOW.out hb1'; have hbw1 : Below w.heap.size w w1 := HBB.out.trans (hb1'.mono HBB.out.size); have hcell1 : w1.cell? ⟨b, off + k, none⟩ = some (.string (strOf t)) := (hb1'.cell (p := ⟨b, off + k, none⟩) hoffr).trans hcell; clear hb1 hb1')
          | (refine step_append_bs (by rfl) _ _ (by rfl) (by rfl) hown1 (by rfl) hB1 rfl (by omega) hbw1.size ?_; intro v2 w2 hown2 hg2; have hbw2 : Below w.heap.size w w2 := hbw1.grown hg2 hbw1.size (fun j hj => (hown1.lt j hj).1); have hcell2 : w2.cell? ⟨b, off + k, none⟩ = some (.string (strOf t)) := (hbw2.cell (p := ⟨b, off + k, none⟩) hoff).trans HC0.out)
          | (refine step_append_str (by rfl) _ _ (by rfl) (by rfl) hown2 (by rfl) (by have := hNT.out; rw [List.length_append]; omega) hbw2.size ?_; intro v3 w3 hown3 hg3; have hbw3 : Below w.heap.size w w3 := hbw2.grown hg3 hbw2.size (fun j hj => (hown2.lt j hj).1); have hcell3 : w3.cell? ⟨b, off + k, none⟩ = some (.string (strOf t)) := (hbw3.cell (p := ⟨b, off + k, none⟩) hoff).trans HC0.out))
        have hown4 : w3.ownsRow w.heap.size 5 1 v3 (putTs (ts.take (k + 1))).length (cellsOf (putTs (ts.take (k + 1)))) := by
          rw [putTs_take ts k hkl, ← HT.out, ← hNT.out, List.length_append]
          exact hown3
        clear hown1 hown2 hown3 hB1
        go_wp2
        go_roundw
        case rel => exact ⟨k + 1, by omega, by go_num, hown4, take_more HSM.out hkl (by rw [← HT.out, ← hNT.out]; omega), hbw3⟩
        case measure => simp [intOf]; omega
    · have g3 : decide ((k : Int) < (m : Int)) = false := decide_eq_false (by omega)
      have hkm : k = m := by omega
      have htk : ts.take k = ts := by rw [hkm, HM.out, List.take_length]
      rw [htk] at HOW hplen HSM
      obtain ⟨P, hP⟩ : ∃ P, P = (putTs ts).length := ⟨_, rfl⟩
      obtain ⟨_, Ai, capi, hv, hBi⟩ := Bs.own HOW.out
      rw [← hP] at hplen hv
      have HBi := Lib.hid hBi
      have HPP := Lib.hid hP
      subst hv
      have hup := Lib.uvarint_length64 (x := P) (by omega)
      have hwr : IntKind.u64.wrap (P : Int) = (P : Int) := IntWalk.u64_in _ (by omega)
      have hml : Hid ((msgOf ts rest).length ≤ 10400) := by
        have e1 := msg_length ts rest
        have e2 := HN.out
        show _ ≤ _
        rw [e1, headOf, ← HPP.out]
        omega
      have hmsg : Hid (msgOf ts rest = (uvarint P ++ putTs ts) ++ rest) := by show _ = _; rw [HPP.out]; rfl
      have hopen : Hid ((St.mk 0 [(msgOf ts rest).length]).opens (msgOf ts rest) = msgAt ts rest 0) := msg_open ts rest (by rw [← HPP.out]; omega)
      clear hBi hP htk hkm hk
      go_wp2_with (first
        | (go_at_call 19; refine (rput_own P _ (by omega)).mono ?_; rintro e w2 ⟨v2, n2, rfl, hown2, hb2⟩; have HBi2 := Lib.hid (HBi.out.below hb2 (Nat.le_refl _)); have hbw2 : Below w.heap.size w w2 := HBB.out.trans (hb2.mono HBB.out.size); have hrs := hb2.size; clear hb2)
        | (at_builtin; refine wpList_append_bs rfl (.tmp 49) (.tmp 50) _ rfl wr.heap.size 5 i0 Try.underlying22 hi hz0 hz1 hz2 v2 n2 (uvarint P) rfl hown2 _ _ _ (putTs ts) rfl HPP.out HBi2.out (by have := HPP.out; omega) hrs ?_; go_must (intro v3 w3 hown3 hg3; have hbw3 : Below w.heap.size w w3 := hbw2.grown hg3 hbw2.size (fun j hj => by have := (hown2.lt j hj).1; have := HBB.out.size; omega); have hrs3 : wr.heap.size ≤ w3.heap.size := Nat.le_trans hrs hg3.size; clear hg3))
        | (at_builtin; refine wpList_append_bs rfl (.tmp 51) (.tmp 52) _ rfl wr.heap.size 5 i0 Try.underlying22 hi hz0 hz1 hz2 v3 _ (uvarint P ++ putTs ts) rfl hown3 _ _ _ rest rfl HN.out (HR2.out.below hbw3 (Nat.le_refl _)) (by have := HPP.out; have := HN.out; rw [List.length_append]; omega) hrs3 ?_; go_must (intro v4 w4 hown4 hg4; have hbw4 : Below w.heap.size w w4 := hbw3.grown hg4 hbw3.size (fun j hj => by have := (hown3.lt j hj).1; have := HBB.out.size; omega); rw [← hmsg.out] at hown4; obtain ⟨hn4, A4, cap4, hv4, hB4⟩ := Bs.own hown4; subst hv4; have HB4 := Lib.hid hB4; clear hg4 hB4 hown4 hn4))
        | (go_at_call 7; refine (from_any _ _ _ (msgOf ts rest) _ rfl HB4.out (by have := hml.out; omega)).mono ?_; rintro e w5 ⟨W, p, g, rfl, hb5, hb5', hc5⟩; have HP5 := Lib.hid (show Lone w.heap.size W w5 p g (msgOf ts rest) ⟨0, [(msgOf ts rest).length]⟩ from ⟨hc5, by have := hc5.1.1; have := hb5.size; have := hbw4.size; omega, by have := hc5.1.2.1; have := hb5.size; have := hbw4.size; omega⟩); have HB5 := Lib.hid (hbw4.trans (hb5'.mono hbw4.size)); clear hc5 hb5 hb5')
        | (go_at_call 17; have q := open_cur HP5.out.c (by have := hml.out; omega); rw [hopen.out] at q; refine q.mono ?_; clear q; rintro e w6 hto; obtain ⟨rfl, g6, hp6, hb6⟩ := HP5.out.to hto; have HP6 := Lib.hid hp6; have HB6 := Lib.hid (HB5.out.trans hb6); clear hto hp6 hb6)
        | (go_at_call 13; have q := deep_cur HP6.out.c; rw [show ((msgAt ts rest 0).fr.length : Int) = 2 from rfl] at q; refine q.mono ?_; clear q; rintro e w7 ⟨rfl, rfl⟩))
      clear hbw2 hbw3 hbw4 hrs hrs3 hown2 hown3
      go_loopw [8] (fun x wr2 => ∃ (k g : Nat), k ≤ m ∧ x = .int .i64 (k : Int) ∧ Lone w.heap.size W wr2 p g (msgOf ts rest) (msgAt ts rest k) ∧ Below w.heap.size w wr2) (fun x _ => m - (intOf x).toNat)
      case atStart => exact ⟨0, g6, by omega, rfl, HP6.out, HB6.out⟩
      case round =>
        obtain ⟨k2, g7, hk2, rfl, hp7, hb7⟩ := hrel
        have HP7 := Lib.hid hp7
        have HB7 := Lib.hid hb7
        clear hp7 hb7
        by_cases hlt2 : k2 < m
        · have g5 : decide ((k2 : Int) < (m : Int)) = true := decide_eq_true (by omega)
          have hkl : k2 < ts.length := by have := HM.out; omega
          obtain ⟨b, off, rfl, hcell0⟩ := HS.out.lt (j := k2) (by rw [txts_length]; exact hkl)
          obtain ⟨t, ht⟩ : ∃ t, t = ts[k2] := ⟨_, rfl⟩
          have hcell0 : w.cell? ⟨b, off + k2, none⟩ = some (.string (strOf t)) := by rw [hcell0, ht]; simp [txts]
          have hoff := World.block_lt_of_cell? w _ hcell0
          have hcell := (HB7.out.cell (p := ⟨b, off + k2, none⟩) hoff).trans hcell0
          have hmore : Hid ((msgAt ts rest k2).more = true) := by show _ = _; rw [msg_more, decide_eq_true hkl]
          have htext : Hid ((msgAt ts rest k2).rd tText [] (msgOf ts rest) = (t, msgAt ts rest (k2 + 1))) := by
            show _ = _
            rw [ht]
            refine msg_text ts rest k2 hkl ?_
            have := HSM.out ts[k2] (List.getElem_mem hkl)
            omega
          have HC0 := Lib.hid hcell0
          clear hcell0 ht
          go_wp2
          go_region_held3 (fun w' => w'.cell? ⟨b, off + k2, none⟩ = some (.string (strOf t)))
            (first | exact hcell | exact hcell8 | go_keep)
            (first
            | (go_at_call 14; have q := fun n => more_cur (HP7.out.drawn n).1.c; rw [hmore.out] at q; refine (q _).mono ?_; clear q; rintro e w' ⟨rfl, n, rfl⟩)
            | (go_at_call 16; have q := fun n => text_cur (HP7.out.drawn n).1.c; rw [htext.out] at q; refine (q _).mono ?_; clear q; rintro e w8 hto; obtain ⟨rfl, g8, hp8, hb8⟩ := (HP7.out.drawn _).1.to hto; have HP8 := Lib.hid hp8; have hb8' := HB7.out.trans ((HP7.out.drawn _).2.trans hb8); have hcell8 : w8.cell? ⟨b, off + k2, none⟩ = some (.string (strOf t)) := (hb8'.cell (p := ⟨b, off + k2, none⟩) hoff).trans HC0.out; have HB8 := Lib.hid hb8'; clear hto hp8 hb8 hb8'))
          go_wp2
          go_roundw
          case rel => exact ⟨k2 + 1, g8, by omega, by go_num, HP8.out, HB8.out⟩
          case measure => simp [intOf]; omega
        · have g5 : decide ((k2 : Int) < (m : Int)) = false := decide_eq_false (by omega)
          have hkm2 : k2 = ts.length := by have := HM.out; omega
          have hmore : Hid ((msgAt ts rest k2).more = false) := by show _ = _; rw [msg_more, decide_eq_false (by omega)]
          have hshut : Hid ((msgAt ts rest k2).shuts = (true, ⟨headOf ts + (putTs ts).length, [(msgOf ts rest).length]⟩)) := by show _ = _; rw [hkm2]; exact msg_shuts ts rest
          have hrest : Hid ((St.mk (headOf ts + (putTs ts).length) [(msgOf ts rest).length]).more = decide (0 < n)) := by show _ = _; rw [HN.out]; exact msg_rest ts rest
          clear hkm2
          go_wp2_with (first
            | (go_at_call 14; have q := more_cur HP7.out.c; rw [hmore.out] at q; refine q.mono ?_; clear q; rintro e w8 ⟨rfl, n8, hw8⟩; have hp8 := HP7.out.drawn n8; rw [← hw8] at hp8; have HP8 := Lib.hid hp8.1; have HB8 := Lib.hid (HB7.out.trans hp8.2); clear hp8 hw8)
            | (go_at_call 18; have q := close_cur HP8.out.c; rw [hshut.out] at q; refine q.mono ?_; clear q; rintro e w9 hto; obtain ⟨rfl, g9, hp9, hb9⟩ := HP8.out.to hto; have HP9 := Lib.hid hp9; have HB9 := Lib.hid (HB8.out.trans hb9); clear hto hp9 hb9)
            | (go_at_call 13; have q := deep_cur HP9.out.c; rw [show (((St.mk (headOf ts + (putTs ts).length) [(msgOf ts rest).length]).fr.length : Nat) : Int) = 1 from rfl] at q; refine q.mono ?_; clear q; rintro e w10 ⟨rfl, rfl⟩)
            | (go_at_call 14; have q := more_cur HP9.out.c; rw [hrest.out] at q; refine q.mono ?_; clear q; rintro e w11 ⟨rfl, n11, hw11⟩; have hp11 := HP9.out.drawn n11; rw [← hw11] at hp11; have HB11 := Lib.hid (HB9.out.trans hp11.2); clear hp11 hw11)
            | (go_at_call 6; refine (HL.out _).mono ?_; rintro e w12 ⟨rfl, hb12⟩))
          go_ret
          exact ⟨rfl, HB11.out.trans (hb12.mono HB11.out.size)⟩
end Go.Proofs.Ytclfoiodbjaanaa
