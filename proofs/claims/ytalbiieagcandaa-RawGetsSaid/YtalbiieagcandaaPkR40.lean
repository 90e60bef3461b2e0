/- Several texts in one: RwD, RwE. What each proves, and its conditions, stands at its own head. -/
import Derived.Test.YtalbiieagcandaaPkR39
import Derived.Test.YtalbiieagcandaaPkR17
import Derived.Test.YtalbiieagcandaaPkR37
import Derived.RangeFuncCalls
import Derived.RangeFuncLeaves
import Derived.Shelf.RegionOpen
import Derived.WalkKit
import Derived.OwnWalkIn
import Derived.TacticsInMore
import Derived.LoopNIn
import Derived.LoopIn
import Derived.Lib.Hide
/- The program's reading of fields one by one: which it yields. Conditions: those that each theorem names. -/
namespace Go.Proofs.Ytalbiieagcandaa
open Go.RowKit Go.Shelf
set_option linter.unusedVariables false
set_option maxRecDepth 100000
attribute [local go_sem] Oper.semAt_some

section
variable {bs : List UInt8} {s : St} {k : Nat}
theorem half_take (hk : k ≤ (getR bs).1.length) : ((getR bs).1.take k).length = k := by rw [List.length_take]; omega
theorem half_done (h : Half bs s ((getR bs).1.take k)) (hk : k ≤ (getR bs).1.length) (hm : s.more = false) : k = (getR bs).1.length ∧ (getR bs).2 = true := by
  have h1 := h.done hm
  have h2 := congrArg (fun r => r.1.length) h1
  dsimp only at h2
  rw [half_take hk] at h2
  exact ⟨h2.symm, congrArg Prod.snd h1⟩
theorem half_fail (h : Half bs s ((getR bs).1.take k)) (hk : k ≤ (getR bs).1.length) (hm : s.more = true) (hf : (oneS bs s).2.fr = []) : k = (getR bs).1.length ∧ (getR bs).2 = false := by
  have h1 := h.fail hm hf
  have h2 := congrArg (fun r => r.1.length) h1
  dsimp only at h2
  rw [half_take hk] at h2
  exact ⟨h2.symm, congrArg Prod.snd h1⟩
theorem half_next (h : Half bs s ((getR bs).1.take k)) (hk : k ≤ (getR bs).1.length) (hm : s.more = true) (hf : (oneS bs s).2.fr ≠ []) : (getR bs).1[k]? = some ((oneS bs s).1, s.at_) ∧ Half bs (oneS bs s).2 ((getR bs).1.take (k + 1)) := by
  have h' := h.step hm hf
  have e := congrArg Prod.fst h'.all
  dsimp only at e
  have hx : (getR bs).1[k]? = some ((oneS bs s).1, s.at_) := by
    rw [e, List.append_assoc, List.getElem?_append_right (by rw [half_take hk]; exact Nat.le_refl _), half_take hk, Nat.sub_self]
    rfl
  refine ⟨hx, ?_⟩
  rw [List.take_add_one, hx]
  exact h'
end

/-- The field that is yielded in round k, and its place. -/
def rgAt (bs : List UInt8) (k : Nat) : Rw × Nat := (getR bs).1[k]?.getD (⟨0, 0, 0, []⟩, 0)
def rgVals (bs : List UInt8) (k : Nat) : Array Value := #[.int .i64 ((rgAt bs k).2 : Int), rawV (rgAt bs k).1]
theorem rgAt_get {bs : List UInt8} {k : Nat} {x : Rw × Nat} (h : (getR bs).1[k]? = some x) : rgAt bs k = x := by unfold rgAt; rw [h]; rfl

/-- What is kept ahead of round k: the cursor, and the box b that it lies in. -/
def ItR (B : Nat) (W0 : World) (p b : Nat) (bs : List UInt8) (k : Nat) (S : Nat → Prop) (w : World) : Prop :=
  ∃ s g, Half bs s ((getR bs).1.take k) ∧ k ≤ (getR bs).1.length ∧ Cur W0 w p g bs s ∧ w.cell? ⟨b, 0, none⟩ = some (.pointer (some ⟨p, 0, none⟩)) ∧ (∀ i, S i ↔ (i = p ∨ i = g)) ∧ b ≠ p ∧ b ≠ g ∧ B ≤ p ∧ B ≤ g ∧ ∀ (j : Nat) x, j < k → (getR bs).1[j]? = some x → x.2 < s.at_
/-- What is left. -/
def FinR (B : Nat) (W0 : World) (p : Nat) (bs : List UInt8) (S : Nat → Prop) (w : World) : Prop :=
  ∃ s g, Cur W0 w p g bs s ∧ s.oks = (getR bs).2 ∧ (∀ i, S i ↔ (i = p ∨ i = g)) ∧ B ≤ p ∧ B ≤ g
def two (p g : Nat) (i : Nat) : Prop := i = p ∨ i = g
theorem Only.touch {p g : Nat} {w w' : World} (h : Only p g w w') : Touch (two p g) w w' :=
  ⟨h.os, h.tape, h.output, h.size, fun k hk hn => h.block k hk (fun e => hn (.inl e)) (fun e => hn (.inr e))⟩
theorem Touch.only {p g : Nat} {S : Nat → Prop} {w w' : World} (h : Touch S w w') (hS : ∀ i, S i ↔ (i = p ∨ i = g)) : Only p g w w' :=
  ⟨h.os, h.tape, h.output, h.size, fun k hk h1 h2 => h.block k hk (fun e => by rcases (hS k).1 e with e | e; exact h1 e; exact h2 e)⟩
/-- One field more: the world w, drawn on, read, and a box for the field. -/
structure StepR (B : Nat) (W0 : World) (p b g : Nat) (bs : List UInt8) (s s2 : St) (w w2 : World) (g2 : Nat) : Prop where
  cur : Cur W0 w2 p g2 bs s2
  box : w2.cell? ⟨b, 0, none⟩ = some (.pointer (some ⟨p, 0, none⟩))
  only : Only p g w w2
  new : g2 = g ∨ w.heap.size ≤ g2
theorem stepR_one {B : Nat} {W0 w wd w2 : World} {p b g : Nat} {bs : List UInt8} {s s2 : St} {e : Ending} {v : Value} (hd : Below w.heap.size w wd) (hc : Cur W0 w p g bs s) (hb : w.cell? ⟨b, 0, none⟩ = some (.pointer (some ⟨p, 0, none⟩))) (h1 : b ≠ p) (h2 : b ≠ g)
    (h : CurTo W0 wd p g bs s2 v e w2) : e = .returned v ∧ ∃ g2, StepR B W0 p b g bs s s2 w w2 g2 := by
  obtain ⟨he, g2, hg2, hc2, ho⟩ := h
  have hbl := lt_of_cell hb
  have ho2 : Only p g w w2 := (Only.of_below hd).trans ho
  refine ⟨he, g2, hc2, ?_, ho2, by rcases hg2 with h | h; exact .inl h; exact .inr (Nat.le_trans hd.size h)⟩
  exact (World.cell?_of_block (ho2.block b hbl h1 h2)).trans hb
theorem StepR.bel {B : Nat} {W0 w w2 w3 : World} {p b g g2 : Nat} {bs : List UInt8} {s s2 : St} (h : StepR B W0 p b g bs s s2 w w2 g2) (hb : Below w2.heap.size w2 w3) : StepR B W0 p b g bs s s2 w w3 g2 :=
  ⟨h.cur.bel hb, (hb.cell (p := ⟨b, 0, none⟩) (lt_of_cell h.box)).trans h.box, h.only.trans (Only.of_below hb), h.new⟩
end Go.Proofs.Ytalbiieagcandaa

/- The program's reading of fields one by one, yielded to a loop. Conditions: those that each theorem names. -/
namespace Go.Proofs.Ytalbiieagcandaa
open Go.RowKit Go.Shelf
set_option linter.unusedVariables false
set_option maxRecDepth 100000
attribute [local go_sem] Oper.semAt_some

def placeAt (p : Nat) (w : World) : Nat := match w.cell? ⟨p, 1, none⟩ with
  | some (.int _ n) => n.toNat
  | _ => 0
theorem cur_place {W w : World} {p g : Nat} {bs : List UInt8} {s : St} (h : Cur W w p g bs s) (hf : s.fr ≠ []) : placeAt p w = s.at_ := by
  rcases h.2 with ⟨a, _⟩ | ⟨l, r, A, cap, c, a, b, d, _⟩
  · exact absurd a hf
  · have h1 := obj_cell d 1
    unfold placeAt
    rw [h1]
    simp
theorem half_at {bs : List UInt8} {s : St} {acc : List (Rw × Nat)} (h : Half bs s acc) : s.at_ ≤ bs.length := by
  have h1 := h.right
  unfold Right at h1
  rw [h.fr] at h1
  exact h1.1
theorem one_at {bs : List UInt8} {s : St} (h : (oneS bs s).2.fr ≠ []) : s.at_ < (oneS bs s).2.at_ := by
  rcases one_on bs s with h1 | h1
  · exact absurd h1 h
  · exact h1.2

set_option maxHeartbeats 4000000 in
theorem fields_seq (B : Nat) (W0 : World) (p b : Nat) (bs : List UInt8) (hlen : bs.length ≤ 140737488351232) :
    SeqM Try.prog 43 #[.pointer (some ⟨b, 0, none⟩)] (rgVals bs) (getR bs).1.length (ItR B W0 p b bs) (FinR B W0 p bs) := by
  intro n l J Y F S W hR hM hY hE h0
  obtain ⟨N, hN⟩ : ∃ N, N = (getR bs).1.length := ⟨_, rfl⟩
  rw [← hN] at hM hY hE
  have HN := Lib.hid hN
  have HR := Lib.hid hR
  have HM := Lib.hid hM
  have HY := Lib.hid hY
  have HE := Lib.hid hE
  clear hN hR hM hY hE
  refine callsIn_of_wp Try.func43 rfl trivial ?_ rfl
  simp only [Try.ntmps43, List.size_toArray, List.length_cons, List.length_nil, Nat.reduceAdd, Nat.reduceSub, Array.replicate_succ, Array.replicate_zero, List.push_toArray, List.append_toArray, List.nil_append, List.cons_append]
  gi_wp2
  gi_loopw [3] (fun x wr => ∃ k S, J k S wr) (fun x wr => bs.length + 1 - placeAt p wr)
  case atStart => exact ⟨0, S, h0⟩
  case round =>
    obtain ⟨k, S1, hJ⟩ := hrel
    obtain ⟨s, g, hh, hk, hc, hb, hS, n1, n2, b1, b2, hpl⟩ := HR.out k S1 wr hJ
    have HPS := Lib.hid hpl
    clear hpl
    have HJ := Lib.hid hJ
    have HMO := Lib.hid (more_cur hc)
    have HAT := Lib.hid (fun m => at_cur (hc.bel (drawn_below wr m)))
    have hbd : ∀ m, (wr.drewN m).cell? ⟨b, 0, none⟩ = some (.pointer (some ⟨p, 0, none⟩)) := fun m => hb
    have HS := Lib.hid hS
    cases hm : s.more with
    | false =>
      have HD := Lib.hid (half_done hh hk hm)
      have HOK : Hid (s.oks = true) := by show _ = _; unfold St.oks; rw [hh.fr]; rfl
      rw [hm] at HMO
      have HC := Lib.hid hc
      have HB := Lib.hid (And.intro b1 b2)
      clear hJ hh hk hc hS hm b1 b2
      gi_wp2_with (first
        | (refine ⟨trivial, (fun hd => by simp [Fence.wide] at hd), ?_⟩; gi_at_call 44; refine (callsIn_wide.2 HMO.out).mono ?_; rintro e w2 ⟨rfl, m, rfl⟩))
      go_end0
      refine ⟨⟨_, rfl⟩, S1, HE.out S1 wr S1 _ (by rw [HN.out, ← HD.out.1]; exact HJ.out) (Touch.of_below _ (drawn_below wr m)) (fun i h => .inl h) ⟨s, g, HC.out.bel (drawn_below wr m), ?_, HS.out, HB.out.1, HB.out.2⟩⟩
      rw [HOK.out, HD.out.2]
    | true =>
      rw [hm] at HMO
      have hne : s.fr ≠ [] := by rw [hh.fr]; simp
      have HPL := Lib.hid (cur_place hc hne)
      have HHA := Lib.hid (half_at hh)
      obtain ⟨x, hx⟩ : ∃ x, x = (oneS bs s).1 := ⟨_, rfl⟩
      obtain ⟨s2, hs2⟩ : ∃ s2, s2 = (oneS bs s).2 := ⟨_, rfl⟩
      have HRD : Hid (∀ m, Calls Try.prog 46 #[.pointer (some ⟨p, 0, none⟩)] (wr.drewN m) fun e w2 => e = .returned (rawV x) ∧ ∃ g2, StepR B W0 p b g bs s s2 wr w2 g2) :=
        Lib.hid (fun m => (read_cur (hc.bel (drawn_below wr m)) hlen).mono fun e w2 h => by rw [hx, hs2]; exact stepR_one (drawn_below wr m) hc hb n1 n2 h)
      have HB := Lib.hid (And.intro b1 (And.intro b2 (show B ≤ wr.heap.size from Nat.le_trans b1 (Nat.le_of_lt hc.1.2.2.2.1))))
      obtain ⟨a0, ha0⟩ : ∃ a0, a0 = s.at_ := ⟨_, rfl⟩
      rw [← ha0] at HAT
      by_cases hbad : s2.fr = []
      · have HD := Lib.hid (half_fail hh hk hm (by rw [← hs2]; exact hbad))
        have HOK : Hid (s2.oks = false) := by show _ = _; unfold St.oks; rw [hbad]; rfl
        clear hJ hh hk hc hS hm b1 b2 hne hx hs2 ha0 hbad
        obtain ⟨num, wire, m1, st⟩ := x
        unfold rawV at HRD
        gi_wp2_with (first
          | (refine ⟨trivial, (fun hd => by simp [Fence.wide] at hd), ?_⟩; gi_at_call 44; refine (callsIn_wide.2 HMO.out).mono ?_; rintro e w2 ⟨rfl, m, rfl⟩)
          | (refine ⟨trivial, (fun hd => by simp [Fence.wide] at hd), ?_⟩; gi_at_call 45; refine (callsIn_wide.2 (HAT.out m)).mono ?_; rintro e w2 ⟨rfl, rfl⟩)
          | (refine ⟨trivial, (fun hd => by simp [Fence.wide] at hd), ?_⟩; gi_at_call 46; refine (callsIn_wide.2 (HRD.out m)).mono ?_; rintro e w2 ⟨rfl, g2, hst⟩; have HST := Lib.hid (hst.bel ((Below.refl _ w2).alloc (Nat.le_refl _) (.cells #[.int .i64 num, .int .i64 wire, .int .u64 (m1 : Int), .string (strOf st)] 28))); have hbx := HST.out.box; clear hst)
          | (refine ⟨trivial, (fun hd => by simp [Fence.wide] at hd), ?_⟩; gi_at_call 29; refine (callsIn_wide.2 (ok_cur HST.out.cur)).mono ?_; rw [HOK.out]; rintro e w3 ⟨rfl, rfl⟩)
          | (refine ⟨(fun f hf => absurd hf (by simp)), ?_⟩))
        refine bodyPost_ret (results_none rfl _ _ _) rfl ?_
        have hst := HST.out
        refine ⟨⟨_, rfl⟩, two p g2, HE.out S1 wr (two p g2) _ (by rw [HN.out, ← HD.out.1]; exact HJ.out) (hst.only.touch.mono fun i h => (HS.out i).2 h) (fun i h => ?_) ⟨s2, g2, hst.cur, ?_, fun i => Iff.rfl, HB.out.1, by have := HB.out.2.1; have := HB.out.2.2; rcases hst.new with e | e <;> omega⟩⟩
        · rcases h with h | h
          · exact .inl ((HS.out i).2 (.inl h))
          · rcases hst.new with e | e
            · exact .inl ((HS.out i).2 (.inr (h.trans e)))
            · exact .inr (by omega)
        · rw [HOK.out, HD.out.2]
      · obtain ⟨hxk, hnx⟩ := half_next hh hk hm (by rw [← hs2]; exact hbad)
        have HXK := Lib.hid hxk
        have HLT : Hid (s.at_ < s2.at_) := Lib.hid (by rw [hs2]; exact one_at (by rw [← hs2]; exact hbad))
        have HNX := Lib.hid hnx
        have HNB := Lib.hid hbad
        have HX := Lib.hid hx
        have HS2 := Lib.hid hs2
        have HA0 := Lib.hid ha0
        have HOK : Hid (s2.oks = true) := by
          show _ = _
          unfold St.oks
          cases hf : s2.fr with
          | nil => exact absurd hf hbad
          | cons l r => rfl
        have HKN : Hid (k < N) := by show k < N; rw [HN.out]; exact (List.getElem?_eq_some_iff.1 hxk).1
        have HRG : Hid (rgVals bs k = #[.int .i64 (a0 : Int), rawV x]) := by show _ = _; unfold rgVals; rw [rgAt_get hxk, ha0, hx]
        clear hJ hh hk hc hS hm b1 b2 hne hx hs2 ha0 hbad hxk hnx
        have HIT : Hid (∀ w2 g2, StepR B W0 p b g bs s s2 wr w2 g2 → k < N → Y k (two p g2) w2 ∧ placeAt p w2 = s2.at_) := Lib.hid (fun w2 g2 hst hkn => by
          have hnew : g2 ≠ b := by
            rcases hst.new with e | e
            · exact fun h => n2 (by rw [← e, h])
            · exact fun h => by have := lt_of_cell hb; omega
          have e2 : (oneS bs s).2 = s2 := HS2.out.symm
          refine ⟨HM.out k S1 wr (two p g2) w2 hkn HJ.out (hst.only.touch.mono fun i h => (HS.out i).2 h) (fun i h => ?_) ⟨s2, g2, by rw [← e2]; exact HNX.out, by rw [← HN.out]; omega, hst.cur, hst.box, fun i => Iff.rfl, n1, hnew.symm, HB.out.1, by have := HB.out.2.1; have := HB.out.2.2; rcases hst.new with e | e <;> omega, fun j y hj hy => ?_⟩, cur_place hst.cur HNB.out⟩
          rotate_left
          · by_cases hjk : j < k
            · exact Nat.lt_trans (HPS.out j y hjk hy) HLT.out
            · obtain rfl : j = k := by omega
              have e := HXK.out.symm.trans hy
              injection e with e
              rw [← e]
              exact HLT.out
          · rcases h with h | h
            · exact .inl ((HS.out i).2 (.inl h))
            · rcases hst.new with e | e
              · exact .inl ((HS.out i).2 (.inr (h.trans e)))
              · exact .inr (by omega))
        obtain ⟨num, wire, m1, st⟩ := x
        unfold rawV at HRD HRG
        gi_wp2_with (first
          | (refine ⟨trivial, (fun hd => by simp [Fence.wide] at hd), ?_⟩; gi_at_call 44; refine (callsIn_wide.2 HMO.out).mono ?_; rintro e w2 ⟨rfl, m, rfl⟩)
          | (refine ⟨trivial, (fun hd => by simp [Fence.wide] at hd), ?_⟩; gi_at_call 45; refine (callsIn_wide.2 (HAT.out m)).mono ?_; rintro e w2 ⟨rfl, rfl⟩)
          | (refine ⟨trivial, (fun hd => by simp [Fence.wide] at hd), ?_⟩; gi_at_call 46; refine (callsIn_wide.2 (HRD.out m)).mono ?_; rintro e w2 ⟨rfl, g2, hst⟩; have HST := Lib.hid (hst.bel ((Below.refl _ w2).alloc (Nat.le_refl _) (.cells #[.int .i64 num, .int .i64 wire, .int .u64 (m1 : Int), .string (strOf st)] 28))); have hbx := HST.out.box; have hnw := heap_alloc_new w2 (.cells #[.int .i64 num, .int .i64 wire, .int .u64 (m1 : Int), .string (strOf st)] 28); have x0 := obj_cell hnw 0; have x1 := obj_cell hnw 1; have x2 := obj_cell hnw 2; have x3 := obj_cell hnw 3; obtain ⟨fn, tmps, assign, body, hy, hRR⟩ := HY.out k (two p g2) _ HKN.out (HIT.out _ g2 HST.out HKN.out).1; rw [HRG.out] at hy; clear hst hnw)
          | (refine ⟨trivial, (fun hd => by simp [Fence.wide] at hd), ?_⟩; gi_at_call 29; refine (callsIn_wide.2 (ok_cur HST.out.cur)).mono ?_; rw [HOK.out]; rintro e w3 ⟨rfl, rfl⟩)
          | (refine ⟨(fun f hf => absurd hf (by simp)), ?_⟩))
        refine ⟨fun hd => by simp [Fence.wide] at hd, hRR.mono ?_⟩
        rintro e W3 ⟨rfl, hJ3⟩
        gi_wp2
        go_roundw
        case rel => exact ⟨k + 1, _, hJ3⟩
        case measure =>
          obtain ⟨s3, g3, hh3, _, hc3, _, _, _, _, _, _, hp3⟩ := HR.out (k + 1) _ W3 hJ3
          have h1 := hp3 k _ (Nat.lt_succ_self k) HXK.out
          have h2 := cur_place hc3 (by rw [hh3.fr]; simp)
          have h3 := half_at hh3
          have h4 := HPL.out
          rw [h2, h4]
          dsimp only at h1
          omega
end Go.Proofs.Ytalbiieagcandaa
