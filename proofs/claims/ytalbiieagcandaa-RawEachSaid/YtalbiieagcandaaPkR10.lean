/- Several texts in one: EmPlain. What each proves, and its conditions, stands at its own head. -/
import Derived.Test.YtalbiieagcandaaPkR8
import Derived.Test.YtalbiieagcandaaPkR9
/- Plain: pieces of bytes are written behind the writer's. Conditions: those that each theorem names. -/
namespace Go.Proofs.Ytalbiieagcandaa
open Go.RowKit
set_option linter.unusedVariables false
set_option maxRecDepth 100000

def Ws.plain (s : Ws) (bs : List UInt8) : Ws := ⟨s.raw ++ bs, s.fs, s.op, s.room⟩
/-- A slice of slices that read as these pieces, none of it in a block of S. -/
def Pcs (w : World) (S : Nat → Prop) (A : Option Addr) (cap : Nat) (pcs : List (List UInt8)) : Prop :=
  ∃ vs : List Value, vs.length = pcs.length ∧ Sl w A cap vs ∧ (∀ a, A = some a → ¬ S a.block ∧ a.block < w.heap.size) ∧
    ∀ (j : Nat) (v : Value) (p : List UInt8), vs[j]? = some v → pcs[j]? = some p → ∃ Aj cj, v = .slice Aj p.length cj ∧ Bs w Aj cj p ∧ ∀ a, Aj = some a → ¬ S a.block ∧ a.block < w.heap.size

def PlainRel (B : Nat) (w : World) (p : Nat) (S : Nat → Prop) (s : Ws) (pcs : List (List UInt8)) (k : Nat) (wr : World) : Prop :=
  ∃ S', Wr B wr p S' true (s.plain (pcs.take k).flatten) ∧ (∀ i, S' i → S i ∨ w.heap.size ≤ i) ∧ Touch S w wr

theorem flat_len_le {α : Type} (l : List (List α)) (k : Nat) : (l.take k).flatten.length ≤ l.flatten.length := by
  have h := congrArg List.length (congrArg List.flatten (List.take_append_drop k l))
  rw [List.flatten_append, List.length_append] at h
  omega

set_option maxHeartbeats 1000000 in
theorem plain_any {B p : Nat} {S : Nat → Prop} {s : Ws} {w : World} (h : Wr B w p S true s) {A : Option Addr} {n cap : Nat} {pcs : List (List UInt8)} (hp : Pcs w S A cap pcs) (hn : n = pcs.length) (hb : s.raw.length + pcs.flatten.length ≤ 140737488355328) :
    Calls Try.prog 73 #[.pointer (some ⟨p, 0, none⟩), .slice A n cap] w (WrTo B w p S true (s.plain pcs.flatten) (.bool true)) := by
  obtain ⟨i0, hi, hz0, hz1, hz2⟩ := info_parts info_u8
  obtain ⟨vs, hvl, hsl, hA, hps⟩ := hp
  have hmax : n ≤ 9223372036854775807 := by have h1 := hsl.le; have h2 := hsl.max; unfold maxLen at h2; omega
  have HW := Lib.hid h
  have HS := Lib.hid hsl
  have HVL := Lib.hid hvl
  have HA := Lib.hid hA
  have HPS := Lib.hid hps
  have HN := Lib.hid hn
  clear h hsl hvl hA hps hn
  go_enter Try.func73, Try.ntmps73
  go_wp2_with (go_at_call 90; refine (ready_any HW.out).mono ?_; rintro e w' ⟨rfl, rfl⟩)
  go_loopw [6, 12] (fun _ x wr => ∃ k : Nat, k ≤ n ∧ x = .int .i64 (k : Int) ∧ PlainRel B w p S s pcs k wr) (fun _ x _ => n - (intOf x).toNat)
  case atStart => exact ⟨0, Nat.zero_le _, rfl, S, by simpa [Ws.plain] using HW.out, fun i hi => .inl hi, Touch.refl _ _⟩
  case round =>
    obtain ⟨k, hk, rfl, S1, hw1, hs1, ht1⟩ := hrel
    by_cases hlt : k < n
    · have g1 : decide ((k : Int) < (n : Int)) = true := decide_eq_true (by omega)
      obtain ⟨pc, hpc⟩ : ∃ pc, pcs[k]? = some pc := ⟨_, List.getElem?_eq_getElem (by have := HN.out; omega)⟩
      obtain ⟨v, hv⟩ : ∃ v, vs[k]? = some v := ⟨_, List.getElem?_eq_getElem (by have := HN.out; have := HVL.out; omega)⟩
      obtain ⟨bl, off, hAe, hcell0⟩ := HS.out.at_ k v hv
      obtain ⟨Aj, cj, hve, hbs, haj⟩ := HPS.out k v pc hv hpc
      subst hve
      subst hAe
      obtain ⟨q1, q2⟩ := HA.out _ rfl
      have hcell := (ht1.cell (p := ⟨bl, off + k, none⟩) q2 q1).trans hcell0
      have hbs1 : Bs wr Aj cj pc := Bs.heap hbs fun a ha => ht1.block _ (haj a ha).2 (haj a ha).1
      obtain ⟨vb, vf, vo, ps, hat⟩ := hw1
      obtain ⟨Ab, capb, hvb, _, _, _, _⟩ := own_form hat.raw
      subst hvb
      have c1 := obj_cell hat.obj 1
      have f1 := obj_free hat.obj 1
      obtain ⟨N, hN⟩ : ∃ N, N = (s.plain (pcs.take k).flatten).raw.length := ⟨_, rfl⟩
      obtain ⟨M, hM⟩ : ∃ M, M = pc.length := ⟨_, rfl⟩
      rw [← hN] at c1
      rw [← hM] at hcell
      have hfl : (pcs.take k).flatten.length + pc.length ≤ pcs.flatten.length := by
        have := flat_len_le pcs (k + 1)
        rw [List.take_add_one, hpc] at this
        simpa using this
      have hNle : N = s.raw.length + (pcs.take k).flatten.length := by rw [hN]; simp [Ws.plain]
      have HAT := Lib.hid hat
      have HBS := Lib.hid hbs1
      have HPC := Lib.hid hpc
      have HNN := Lib.hid hN
      have HMM := Lib.hid hM
      have HNL := Lib.hid hNle
      have HFL := Lib.hid hfl
      have HS1 := Lib.hid hs1
      have HT1 := Lib.hid ht1
      have hple := (hat.lt p hat.sp)
      clear hat hbs1 hpc hN hM hNle hfl hs1 ht1 hv hcell0 hbs haj q1 q2
      go_wp2_with (at_builtin; refine wpList_append_bs2 rfl _ _ _ rfl B 5 i0 Try.underlying29 hi hz0 hz1 hz2 _ N (s.plain (pcs.take k).flatten).raw rfl (show wr.ownsRow B 5 1 (.slice Ab N capb) N _ from by have := HAT.out.raw; rwa [← HNN.out] at this) _ _ _ pc rfl HMM.out HBS.out (by have := HNN.out; have := HNL.out; have := HFL.out; omega) (by omega) ?_; intro v2 w2 hown2 hg2 hm2; obtain ⟨A2, cap2, hv2, _, _, _, _⟩ := own_form hown2; subst hv2; have c21 := obj_cell ((hg2.block p (by omega) (fun e => own_other HAT.out.raw HAT.out.obj (by decide) (by rw [← HNN.out]; exact e.symm))).trans HAT.out.obj) 1; have f21 := obj_free ((hg2.block p (by omega) (fun e => own_other HAT.out.raw HAT.out.obj (by decide) (by rw [← HNN.out]; exact e.symm))).trans HAT.out.obj) 1)
      have hres : PlainRel B w p S s pcs (k + 1) (w2.setCell ⟨p, 1, none⟩ (.slice A2 ((s.plain (pcs.take k).flatten).raw.length + pc.length) cap2)) := by
        have hg3 : wr.grownBy w2 (Value.slice Ab N capb).ownBlock := hg2
        have hm3 : Moved wr (.slice Ab N capb) (.slice A2 ((s.plain (pcs.take k).flatten).raw.length + pc.length) cap2) := hm2
        rw [HNN.out] at hg3 hm3
        obtain ⟨S2, r1, r2, r3⟩ := wr_raw HAT.out (v2 := .slice A2 ((s.plain (pcs.take k).flatten).raw.length + pc.length) cap2) (raw2 := (s.plain (pcs.take k).flatten).raw ++ pc) hg3 hm3 (by rw [List.length_append]; exact hown2)
        refine ⟨S2, ?_, fun i hi => ?_, HT1.out.trans r3 HS1.out⟩
        · have e : s.plain (pcs.take (k + 1)).flatten = ⟨(s.plain (pcs.take k).flatten).raw ++ pc, s.fs, s.op, s.room⟩ := by
            rw [List.take_add_one, HPC.out]
            simp [Ws.plain]
          rw [e]
          exact ⟨_, _, _, _, r1⟩
        · rcases r2 i hi with q | q
          · exact HS1.out i q
          · exact .inr (by have := HT1.out.size; omega)
      clear hown2 hg2 hm2 c1 f1
      go_wp2
      go_roundw
      case rel => exact ⟨k + 1, by omega, by go_num, hres⟩
      case measure => simp [intOf]; omega
    · have g1 : decide ((k : Int) < (n : Int)) = false := decide_eq_false (by omega)
      have hkn : k = pcs.length := by have := HN.out; omega
      have hres : Hid (PlainRel B w p S s pcs pcs.length wr) := by rw [hkn] at hw1; exact ⟨S1, hw1, hs1, ht1⟩
      clear hw1 hs1 ht1 hkn
      go_wp2
      go_ret
      obtain ⟨S2, r1, r2, r3⟩ := hres.out
      rw [List.take_length] at r1
      exact ⟨rfl, S2, r1, r2, r3⟩
end Go.Proofs.Ytalbiieagcandaa
