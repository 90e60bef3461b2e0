/- Several texts in one: FxD, FxE. What each proves, and its conditions, stands at its own head. -/
import Derived.Test.YtmajhjkibmbikaaPkK7
import Derived.Test.YtmajhjkibmbikaaPkK22
import Derived.RangeFuncCalls
import Derived.RangeFuncLeaves
import Derived.Shelf.RegionOpen
import Derived.WalkKit
import Derived.OwnWalkIn
import Derived.TacticsInMore
import Derived.LoopNIn
import Derived.LoopIn
import Derived.Lib.Hide
/- The program's layer 16: what the messages' fields name, one by one. Conditions: those that each theorem names. -/
namespace Go.Proofs.Ytmajhjkibmbikaa
open Go.RowKit Go.Shelf
set_option linter.unusedVariables false
set_option maxRecDepth 100000
attribute [local go_sem] Oper.semAt_some

/-- What was readable in these blocks reads as it read. -/
def KeepS (S : Nat → Nat → Prop) (w0 W : World) : Prop := ∀ k (p : Addr) v, S k p.block → w0.cell? p = some v → W.cell? p = some v
section
variable {S : Nat → Nat → Prop} {w0 W W' : World} {A : Option Addr} {cap i : Nat}
theorem KeepS.bel (h : KeepS S w0 W) (hb : Below W.heap.size W W') : KeepS S w0 W' := fun k p v hs hc => cell_under hb (h k p v hs hc)
theorem KeepS.of_below (hb : Below w0.heap.size w0 W) : KeepS S w0 W := fun k p v hs hc => cell_under hb hc
theorem ms_held {l : List Ms} {x : Ms} (h : Lst 3 (S 4) (msR S) w0 A cap l) (hi : l[i]? = some x) : ∃ g off A1 cap1 A2 cap2, A = some ⟨g, off, none⟩ ∧ (∀ W, KeepS S w0 W → W.cell? ⟨g, off + i * 3, none⟩ = some (.string (strOf x.name)) ∧ W.cell? ⟨g, off + i * 3 + 1, none⟩ = some (.slice A1 x.fields.length cap1) ∧ W.cell? ⟨g, off + i * 3 + 2, none⟩ = some (.slice A2 x.barred.length cap2)) ∧ Lst 7 (S 1) fdR w0 A1 cap1 x.fields ∧ Lst 1 (S 2) inR w0 A2 cap2 x.barred := by
  obtain ⟨g, off, cs, e, hs, _, ⟨A1, cap1, A2, cap2, rfl, h1, h2⟩, hc⟩ := h.l_at i x hi
  exact ⟨g, off, A1, cap1, A2, cap2, e, fun W hk => ⟨hk 4 ⟨g, off + i * 3, none⟩ _ hs (hc 0 _ rfl), hk 4 ⟨g, off + i * 3 + 1, none⟩ _ hs (hc 1 _ rfl), hk 4 ⟨g, off + i * 3 + 2, none⟩ _ hs (hc 2 _ rfl)⟩, h1, h2⟩
theorem fd_held {l : List Fd} {x : Fd} (h : Lst 7 (S 1) fdR w0 A cap l) (hi : l[i]? = some x) : ∃ g off, A = some ⟨g, off, none⟩ ∧ ∀ W, KeepS S w0 W → W.cell? ⟨g, off + i * 7, none⟩ = some (.string (strOf x.name)) ∧ W.cell? ⟨g, off + i * 7 + 1, none⟩ = some (.int .i64 x.num) ∧ W.cell? ⟨g, off + i * 7 + 2, none⟩ = some (.int .i64 x.ty) ∧ W.cell? ⟨g, off + i * 7 + 3, none⟩ = some (.string (strOf x.ref)) ∧ W.cell? ⟨g, off + i * 7 + 4, none⟩ = some (.bool x.rep) ∧ W.cell? ⟨g, off + i * 7 + 5, none⟩ = some (.bool x.loose) ∧ W.cell? ⟨g, off + i * 7 + 6, none⟩ = some (.string (strOf x.one)) := by
  obtain ⟨g, off, cs, e, hs, _, rfl, hc⟩ := h.l_at i x hi
  exact ⟨g, off, e, fun W hk => ⟨hk 1 ⟨g, off + i * 7, none⟩ _ hs (hc 0 _ rfl), hk 1 ⟨g, off + i * 7 + 1, none⟩ _ hs (hc 1 _ rfl), hk 1 ⟨g, off + i * 7 + 2, none⟩ _ hs (hc 2 _ rfl), hk 1 ⟨g, off + i * 7 + 3, none⟩ _ hs (hc 3 _ rfl), hk 1 ⟨g, off + i * 7 + 4, none⟩ _ hs (hc 4 _ rfl), hk 1 ⟨g, off + i * 7 + 5, none⟩ _ hs (hc 5 _ rfl), hk 1 ⟨g, off + i * 7 + 6, none⟩ _ hs (hc 6 _ rfl)⟩⟩
end

/-- What fields name, of those that are of messages. -/
def refsF (l : List Fd) : List (List UInt8) := (l.filter (fun f => decide (f.ty = 15))).map Fd.ref
def refsL (l : List Ms) : List (List UInt8) := l.flatMap (fun m => refsF m.fields)
theorem refsF_snoc {l : List Fd} {j : Nat} {f : Fd} (h : l[j]? = some f) : refsF (l.take (j + 1)) = refsF (l.take j) ++ (if f.ty = 15 then [f.ref] else []) := by
  unfold refsF
  rw [split_take h, List.filter_append, List.map_append]
  congr 1
  by_cases h15 : f.ty = 15 <;> simp [h15]
theorem refsL_snoc {l : List Ms} {k : Nat} {m : Ms} (h : l[k]? = some m) : refsL (l.take (k + 1)) = refsL (l.take k) ++ refsF m.fields := by
  unfold refsL
  rw [split_take h, List.flatMap_append]
  simp
theorem refs_at {l : List Ms} {k j : Nat} {m : Ms} {f : Fd} (h : l[k]? = some m) (hf : m.fields[j]? = some f) (h15 : f.ty = 15) : (refsL l)[(refsL (l.take k)).length + (refsF (m.fields.take j)).length]? = some f.ref := by
  have e1 : refsL l = refsL (l.take (k + 1)) ++ refsL (l.drop (k + 1)) := by
    unfold refsL
    rw [← List.flatMap_append, List.take_append_drop]
  have e2 : refsF m.fields = refsF (m.fields.take (j + 1)) ++ refsF (m.fields.drop (j + 1)) := by
    unfold refsF
    rw [← List.map_append, ← List.filter_append, List.take_append_drop]
  rw [e1, refsL_snoc h, e2, refsF_snoc hf, if_pos h15]
  simp
/-- What is yielded at place k. -/
def refVals (rs : List (List UInt8)) (k : Nat) : Option (Array Value) := (rs[k]?).map fun t => #[.string (strOf t)]

theorem refs_any (A : Option Addr) (n cap : Nat) (w : World) :
    Calls Try.prog 31 #[.slice A n cap] w fun e w' => e = .returned (.func (.func 49) #[] #[.pointer (some ⟨w.heap.size, 0, none⟩)]) ∧ w' = w.alloc (.cells #[.slice A n cap] 23) := by
  go_enter Try.func31, Try.ntmps31
  go_wp2
  go_ret
  exact ⟨rfl, rfl⟩

/-- What the iterator reads. -/
def RefR (S : Nat → Nat → Prop) (w0 : World) (b : Nat) (A : Option Addr) (n cap : Nat) (W : World) : Prop := KeepS S w0 W ∧ W.heap[b]? = some (.cells #[.slice A n cap] 23 (0, 0))

set_option maxHeartbeats 8000000 in
theorem refs_seq {S : Nat → Nat → Prop} (w0 : World) (b : Nat) {A : Option Addr} {cap n : Nat} {l : List Ms} (hL : Lst 3 (S 4) (msR S) w0 A cap l) (hn : n = l.length) :
    SeqS Try.prog 49 #[.pointer (some ⟨b, 0, none⟩)] (refVals (refsL l)) (fun i j => j = i + 1) 0 (fun _ W => RefR S w0 b A n cap W) := by
  intro nn ly J X W hR hB hY h0
  have q1 := hL.l_le
  have q2 := hL.l_max
  rw [← hn] at q1
  unfold maxLen at q2
  have HL := Lib.hid hL
  have HN := Lib.hid hn
  have HR := Lib.hid hR
  have HB := Lib.hid hB
  have HY := Lib.hid hY
  have r0 := obj_cell (HR.out 0 W h0).2 0
  have H0 := Lib.hid h0
  clear hL hn hR hB hY h0
  refine callsIn_of_wp Try.func49 rfl trivial ?_ rfl
  simp only [Try.ntmps49, List.size_toArray, List.length_cons, List.length_nil, Nat.reduceAdd, Nat.reduceSub, Array.replicate_succ, Array.replicate_zero, List.push_toArray, List.append_toArray, List.nil_append, List.cons_append]
  gi_wp2
  clear r0
  gi_loopw [9] (fun i wr => ∃ k : Nat, i = .int .i64 (k : Int) ∧ k ≤ n ∧ J (refsL (l.take k)).length wr) (fun i _ => n - (intOf i).toNat)
  case atStart => exact ⟨0, rfl, Nat.zero_le _, H0.out⟩
  case round =>
    obtain ⟨k, rfl, hk, hJ⟩ := hrel
    have HJ := Lib.hid hJ
    clear hJ
    by_cases hlt : k < n
    · have g1 : decide ((k : Int) < (n : Int)) = true := decide_eq_true (by omega)
      obtain ⟨x, hx⟩ : ∃ x, l[k]? = some x := ⟨_, List.getElem?_eq_getElem (by have := HN.out; omega)⟩
      obtain ⟨ge, oe, A1, cap1, A3, cap3, rfl, hc, hl, hl2⟩ := ms_held HL.out hx
      have q3 := hl.l_le
      have q4 := hl.l_max
      unfold maxLen at q4
      obtain ⟨nf, hnf⟩ : ∃ nf, nf = x.fields.length := ⟨_, rfl⟩
      obtain ⟨nb, hnb⟩ : ∃ nb, nb = x.barred.length := ⟨_, rfl⟩
      obtain ⟨sn, hsn⟩ : ∃ sn, sn = strOf x.name := ⟨_, rfl⟩
      rw [← hnf] at hc q3
      rw [← hnb, ← hsn] at hc
      obtain ⟨c0, c1, c2⟩ := hc _ (HR.out _ _ HJ.out).1
      have HX := Lib.hid hx
      have HF := Lib.hid hl
      have HNF := Lib.hid hnf
      have HBX := Lib.hid (bx_start wr #[.string sn, .slice A1 nf cap1, .slice A3 nb cap3] 32)
      have HJ1 := Lib.hid (HB.out _ _ _ HJ.out HBX.out.b_bel)
      have b1 := obj_cell HBX.out.b_blk 1
      have HSN := Lib.hid (refsL_snoc hx)
      clear hx hc hl hl2 hnf hnb hsn
      gi_wp2
      clear c0 c1 c2 b1
      gi_loopw [16] (fun i wr => ∃ j : Nat, i = .int .i64 (j : Int) ∧ j ≤ nf ∧ J ((refsL (l.take k)).length + (refsF (x.fields.take j)).length) wr) (fun i _ => nf - (intOf i).toNat)
      case atStart => exact ⟨0, rfl, Nat.zero_le _, HJ1.out⟩
      case round =>
        obtain ⟨j, rfl, hj, hJ⟩ := hrel
        have HJ := Lib.hid hJ
        clear hJ
        by_cases hltj : j < nf
        · have g2 : decide ((j : Int) < (nf : Int)) = true := decide_eq_true (by omega)
          obtain ⟨f, hf⟩ : ∃ f, x.fields[j]? = some f := ⟨_, List.getElem?_eq_getElem (by have := HNF.out; omega)⟩
          obtain ⟨gf, of, rfl, hcf⟩ := fd_held HF.out hf
          obtain ⟨d0, d1, d2, d3, d4, d5, d6⟩ := hcf _ (HR.out _ _ HJ.out).1
          have HFI := Lib.hid hf
          have HFS := Lib.hid (refsF_snoc hf)
          obtain ⟨s0, hs0⟩ : ∃ s0, s0 = strOf f.name := ⟨_, rfl⟩
          obtain ⟨s3, hs3⟩ : ∃ s3, s3 = strOf f.ref := ⟨_, rfl⟩
          obtain ⟨so1, hso1⟩ : ∃ sv, sv = strOf f.one := ⟨_, rfl⟩
          obtain ⟨z1, hz1⟩ : ∃ z1, z1 = f.num := ⟨_, rfl⟩
          obtain ⟨z2, hz2⟩ : ∃ z2, z2 = f.ty := ⟨_, rfl⟩
          obtain ⟨b4, hb4⟩ : ∃ b4, b4 = f.rep := ⟨_, rfl⟩
          obtain ⟨b5, hb5⟩ : ∃ b5, b5 = f.loose := ⟨_, rfl⟩
          rw [← hs0] at d0
          rw [← hz1] at d1
          rw [← hz2] at d2
          rw [← hs3] at d3
          rw [← hb4] at d4
          rw [← hb5] at d5
          rw [← hso1] at d6
          rw [← hz2] at HFS
          have HS3 := Lib.hid hs3
          have HZ2 := Lib.hid hz2
          have HNB := Lib.hid (bx_start wr #[.string s0, .int .i64 z1, .int .i64 z2, .string s3, .bool b4, .bool b5, .string so1] 47)
          have n2 := obj_cell HNB.out.b_blk 2
          have n3 := obj_cell HNB.out.b_blk 3
          have HJ2 := Lib.hid (HB.out _ _ _ HJ.out HNB.out.b_bel)
          clear hso1 hs0 hs3 hz1 hz2 hb4 hb5 hf hcf
          by_cases h15 : z2 = 15
          · subst h15
            have HV : Hid (refVals (refsL l) ((refsL (l.take k)).length + (refsF (x.fields.take j)).length) = some #[.string s3]) := Lib.hid (by unfold refVals; rw [refs_at HX.out HFI.out (HZ2.out.symm), HS3.out]; rfl)
            rw [if_pos rfl] at HFS
            obtain ⟨fn, tmps, assign, body, hy, hRR⟩ := HY.out _ _ _ HV.out HJ2.out
            gi_wp2
            refine ⟨fun hd => by simp [Fence.wide] at hd, hRR.mono ?_⟩
            rintro e W3 (⟨rfl, s', rfl, hJ3⟩ | ⟨rfl, hX⟩)
            · have HJ3 := Lib.hid hJ3
              clear hJ3 hRR hy
              gi_wp2
              go_roundw
              case rel => exact ⟨j + 1, by go_num, by omega, by rw [HFS.out, List.length_append]; exact HJ3.out⟩
              case measure => simp [intOf]; omega
            · have HX3 := Lib.hid hX
              clear hX hRR hy
              gi_wp2
              refine ⟨rfl, _, results_none rfl _ _ _, ?_⟩
              exact ⟨⟨_, rfl⟩, .inr HX3.out⟩
          · have e1 : (z2 == 15) = false := beq_false_of_ne h15
            rw [if_neg h15, List.append_nil] at HFS
            gi_wp2
            refine ⟨(fun _ h => by cases h), ?_⟩
            gi_wp2
            go_roundw
            case rel => exact ⟨j + 1, by go_num, by omega, by rw [HFS.out]; exact HJ2.out⟩
            case measure => simp [intOf]; omega
        · have g2 : decide ((j : Int) < (nf : Int)) = false := decide_eq_false (by omega)
          have HE : Hid (x.fields.take j = x.fields) := Lib.hid (List.take_of_length_le (by have := HNF.out; omega))
          gi_wp2
          go_roundw
          case rel => exact ⟨k + 1, by go_num, by omega, by have h := HJ.out; rw [HE.out] at h; rw [HSN.out, List.length_append]; exact h⟩
          case measure => simp [intOf]; omega
    · have g1 : decide ((k : Int) < (n : Int)) = false := decide_eq_false (by omega)
      have HE : Hid (l.take k = l) := Lib.hid (List.take_of_length_le (by have := HN.out; omega))
      gi_wp2
      go_end0
      exact ⟨⟨_, rfl⟩, .inl ⟨_, by unfold refVals; rw [HE.out, List.getElem?_eq_none (Nat.le_refl _)]; rfl, HJ.out⟩⟩
end Go.Proofs.Ytmajhjkibmbikaa

/- The program's layer 16: how many fields are of a message. Conditions: those that each theorem names. -/
namespace Go.Proofs.Ytmajhjkibmbikaa
open Go.RowKit Go.Shelf
set_option linter.unusedVariables false
set_option maxRecDepth 100000
attribute [local go_sem] Oper.semAt_some

theorem refsL_fields (s : Sc) : refsL s.msgs = refsF (fieldsOf s) := by
  unfold refsL refsF fieldsOf
  induction s.msgs with
  | nil => rfl
  | cons m r ih => rw [List.flatMap_cons, List.flatMap_cons, List.filter_append, List.map_append, ih]
theorem uses_refs (s : Sc) (t : List UInt8) : (refsL s.msgs).countP (fun r => decide (r = t)) = usesT s t := by
  rw [refsL_fields]
  unfold refsF usesT
  rw [List.countP_map, List.countP_filter]
  congr 1
  funext f
  unfold useB
  simp [Bool.and_comm]
theorem refsF_len (l : List Fd) : (refsF l).length ≤ l.length := by
  unfold refsF
  rw [List.length_map]
  exact List.length_filter_le _ _
theorem countP_take_snoc {α : Type} {l : List α} {p : α → Bool} {k : Nat} {x : α} (h : l[k]? = some x) : (l.take (k + 1)).countP p = (l.take k).countP p + (if p x = true then 1 else 0) := by
  rw [split_take h, List.countP_append, List.countP_cons, List.countP_nil]
  simp
theorem allocs3 (w : World) (o1 o2 o3 : Obj) (w3 : World) (h : w3 = ((w.alloc o1).alloc o2).alloc o3) :
    w3.heap[w.heap.size]? = (w.alloc o1).heap[w.heap.size]? ∧ w3.heap[w.heap.size + 1]? = ((w.alloc o1).alloc o2).heap[(w.alloc o1).heap.size]? ∧ w3.heap[w.heap.size + 2]? = (((w.alloc o1).alloc o2).alloc o3).heap[((w.alloc o1).alloc o2).heap.size]? ∧ Below w.heap.size w w3 ∧ w3.heap.size = w.heap.size + 3 := by
  subst h
  refine ⟨?_, ?_, by simp, (((Below.refl _ w).alloc (Nat.le_refl _) _).alloc (by simp) _).alloc (by simp; omega) _, by simp⟩
  · rw [Below.heap_alloc _ _ _ (by simp; omega), Below.heap_alloc _ _ _ (by simp)]
  · rw [Below.heap_alloc _ _ _ (by simp), World.size_alloc]

set_option maxHeartbeats 8000000 in
theorem fxuses_any {S : Nat → Nat → Prop} (w : World) {A A2 : Option Addr} {n cap n2 cap2 : Nat} {s : Sc} (h : ScAt S w A n cap A2 n2 cap2 s) (t : List UInt8) (hsm : smallT s = true) :
    Calls Try.prog 12 #[.agg #[.slice A n cap, .slice A2 n2 cap2], .string (strOf t)] w fun e w' => e = .returned (.int .i64 (usesT s t : Int)) ∧ Below w.heap.size w w' := by
  obtain ⟨w3, hw3⟩ : ∃ w3, w3 = ((w.alloc (.cells #[.slice A n cap, .slice A2 n2 cap2] 25)).alloc (.cells #[.string (strOf t)] 9)).alloc (.cells #[.int .i64 0] 3) := ⟨_, rfl⟩
  obtain ⟨k1, k2, k3, hb3, hs3⟩ := allocs3 _ _ _ _ _ hw3
  rw [heap_alloc_new] at k1 k2 k3
  have HSQ := Lib.hid (refs_seq w w3.heap.size h.s_m h.s_nm)
  have HLEN : Hid ((refsL s.msgs).length < 200) := Lib.hid (by rw [refsL_fields]; have := refsF_len (fieldsOf s); have := small_fields hsm; omega)
  have HUS := Lib.hid (uses_refs s t)
  obtain ⟨rs, hrs⟩ : ∃ rs, rs = refsL s.msgs := ⟨_, rfl⟩
  rw [← hrs] at HSQ HLEN HUS
  have r0 := obj_cell k1 0
  have r1 := obj_cell k1 1
  have r2 := obj_cell k2 0
  have r3 := obj_cell k3 0
  have K1 := Lib.hid k1
  have K2 := Lib.hid k2
  have K3 := Lib.hid k3
  have HB3 := Lib.hid hb3
  have HS3 := Lib.hid hs3
  have HW3 := Lib.hid hw3
  have HLW := Lib.hid h
  rw [hw3] at r0 r1 r2 r3
  obtain ⟨st, hst⟩ : ∃ st, st = strOf t := ⟨_, rfl⟩
  have HST := Lib.hid hst
  rw [← hst] at HW3 r0 r1 r2 r3 K2 ⊢
  clear h hsm hw3 k1 k2 k3 hb3 hs3 hst hrs
  refine callsIn_wide.1 (callsIn_of_wp_marks (n := 9) Try.func12 rfl trivial ?_ rfl)
  simp only [Try.ntmps12, List.size_toArray, List.length_cons, List.length_nil, Nat.reduceAdd, Nat.reduceSub, Array.replicate_succ, Array.replicate_zero, List.push_toArray, List.append_toArray, List.nil_append, List.cons_append]
  refine wpIn_wide.2 ?_
  go_wp2_with (go_at_call 31; (with_reducible rw [← HW3.out]); refine (refs_any _ _ _ _).mono ?_; rintro e w4 ⟨rfl, hw4⟩; have HW4 := Lib.hid hw4; clear hw4)
  have hb34 : Below w3.heap.size w3 w4 := by rw [HW4.out]; exact (Below.refl _ _).alloc (Nat.le_refl _) _
  have hbx : w4.heap[w3.heap.size]? = some (.cells #[.slice A2 n2 cap2] 23 (0, 0)) := by rw [HW4.out]; exact heap_alloc_new _ _
  have hs4 : w4.heap.size = w.heap.size + 4 := by rw [HW4.out, World.size_alloc, HS3.out]
  have B34 := Lib.hid hb34
  have HBX := Lib.hid hbx
  have HS4 := Lib.hid hs4
  clear hb34 hbx hs4 r0 r1 r2 r3 HW4
  refine wpIn_wide.1 (wpIn_rangeS (n := 9) (gf := 49) (lb := #[.pointer (some ⟨w3.heap.size, 0, none⟩)]) rfl (enters_of Try.func49 (by kernel_rfl) rfl)
    HSQ.out ?hps 0 (fun k W => Touch (fun i => i = w.heap.size + 2) w4 W ∧ W.heap[w.heap.size + 2]? = some (.cells #[.int .i64 (((rs.take k).countP (fun r => decide (r = t)) : Nat) : Int)] 3 (0, 0)))
    (fun _ => False) ?hI (fun _ _ h => h.elim) ?hB ?hR ?h0 ?hround ?hdone (fun _ h => h.elim))
  case hps =>
    intro k v hv
    unfold refVals at hv
    cases hr : rs[k]? with
    | none => rw [hr] at hv; cases hv
    | some r => rw [hr] at hv; cases hv; rfl
  case hI =>
    rintro k W W' ⟨h1, h2⟩ hg
    have e := HS4.out
    exact ⟨h1.grown hg (fun i hi => by cases hi; exact .inr (by omega)), (hg.block _ (lt_of_block h2) (fun hh => by have := Option.some.inj hh; omega)).trans h2⟩
  case hB =>
    rintro k W W' ⟨h1, h2⟩ hb
    exact ⟨h1.then_below hb, (hb.block _ (lt_of_block h2)).trans h2⟩
  case hR =>
    rintro k W ⟨h1, h2⟩
    have e := HS3.out
    have e4 := HS4.out
    refine ⟨fun j p v hs hc => ?_, (h1.block _ (by omega) (by omega)).trans HBX.out⟩
    have hp := World.block_lt_of_cell? w _ hc
    exact (h1.cell (p := p) (by omega) (by omega)).trans (cell_under (HB3.out.trans (B34.out.mono HB3.out.size)) hc)
  case h0 =>
    exact ⟨Touch.refl _ _, (B34.out.block _ (lt_of_block K3.out)).trans K3.out⟩
  case hround =>
    rintro k v W hv ⟨h1, h2⟩ hlt
    rw [HS4.out] at hlt ⊢
    obtain ⟨r, hr⟩ : ∃ r, rs[k]? = some r := by
      unfold refVals at hv
      cases hr : rs[k]? with
      | none => rw [hr] at hv; cases hv
      | some r => exact ⟨r, rfl⟩
    have hv2 : v = #[.string (strOf r)] := by unfold refVals at hv; rw [hr] at hv; cases hv; rfl
    subst hv2
    have HSN := Lib.hid (countP_take_snoc (p := fun r => decide (r = t)) hr)
    have hN2 : (rs.take k).countP (fun r => decide (r = t)) < 200 := by have := HLEN.out; have h1 := List.countP_le_length (p := fun r => decide (r = t)) (l := rs.take k); rw [List.length_take] at h1; omega
    obtain ⟨N, hN⟩ : ∃ N, N = (rs.take k).countP (fun r => decide (r = t)) := ⟨_, rfl⟩
    rw [← hN] at h2 hN2 HSN
    have HT := Lib.hid h1
    have HNB := Lib.hid h2
    obtain ⟨sr, hsr⟩ : ∃ sr, sr = strOf r := ⟨_, rfl⟩
    have HSR := Lib.hid hsr
    rw [← hsr]
    have gw : IntKind.i64.wrap ((N : Int) + 1) = (N : Int) + 1 := IntWalk.i64_in _ (by omega)
    clear h1 h2 hv hr hN hsr
    gi_wp2
    refine ⟨⟨rfl, rfl, Nat.le_refl _⟩, ?_⟩
    intro W2 hg hL hsz
    have hT2 := HT.out.grown hg (fun i hi => by cases hi; exact .inr (by have := HS4.out; omega))
    have h2 : W2.heap[w.heap.size + 2]? = _ := (hg.block _ (lt_of_block HNB.out) (fun hh => by have := Option.some.inj hh; have := HS4.out; omega)).trans HNB.out
    have h3 : W2.heap[w.heap.size + 1]? = _ := (hT2.block _ (by have := HS4.out; omega) (by omega)).trans ((B34.out.block _ (lt_of_block K2.out)).trans K2.out)
    have c2 := obj_cell h2 0
    have c3 := obj_cell h3 0
    have f2 := obj_free h2 0
    have HT2 := Lib.hid hT2
    have HN2 := Lib.hid h2
    have HSZ := Lib.hid hsz
    clear hT2 h2 h3 hg hL hsz
    by_cases hrt : r = t
    · obtain rfl : sr = st := by rw [HSR.out, HST.out, hrt]
      gi_wp2
      refine ⟨⟨k + 1, rfl, HT2.out.set (.inl rfl) _, ?_⟩, Below.heap_setCell _ _ _ _ (by show ¬ w.heap.size + 4 + 1 = w.heap.size + 1 + 1; omega), Below.heap_setCell _ _ _ _ (by show ¬ w.heap.size + 4 = w.heap.size + 1 + 1; omega), by simp [World.setCell]⟩
      rw [HSN.out, if_pos (decide_eq_true hrt)]
      exact obj_set HN2.out 0 _
    · have e1 : (sr.toList == st.toList) = false := by rw [HSR.out, HST.out, strOf_beq]; exact decide_eq_false hrt
      have e2 : ¬ sr.toList = st.toList := by rw [HSR.out, HST.out, str_list, str_list]; exact hrt
      gi_wp2
      refine ⟨⟨k + 1, rfl, HT2.out, ?_⟩, rfl, rfl, Nat.le_refl _⟩
      rw [HSN.out, if_neg (by rw [decide_eq_false hrt]; decide)]
      exact HN2.out
  case hdone =>
    rintro k W hk ⟨h1, h2⟩ hD
    have hlen : rs.length ≤ k := by
      unfold refVals at hk
      cases hr : rs[k]? with
      | none => exact List.getElem?_eq_none_iff.mp hr
      | some r => rw [hr] at hk; cases hk
    rw [List.take_of_length_le hlen, HUS.out] at h2
    have hbf : Below w.heap.size w (W.putObj w4.heap.size (.deferred none)) := by
      have hw : Below w.heap.size w W := (HB3.out.trans (B34.out.mono HB3.out.size)).trans (h1.below (by have := HS4.out; omega) (fun i hi => by subst hi; omega))
      exact hw.grown (grownBy_putObj' W w4.heap.size (.deferred none)) hw.size (fun i hi => by have := Option.some.inj hi; have := HS4.out; omega)
    have c0 := obj_cell h2 0
    have HBF := Lib.hid hbf
    have HD := Lib.hid hD
    clear h1 h2 hD hbf hk
    go_wp2_with fail
    refine ⟨by simp, .inl ⟨_, _, rfl, run_takeDeferred (b := w4.heap.size) (ds := []) HD.out, ?_⟩⟩
    exact ⟨_, results_tmp rfl _ _ _, rfl, HBF.out⟩
end Go.Proofs.Ytmajhjkibmbikaa
