/- The document's token that a text begins with. Conditions: what number answers; those that each theorem names. -/
import Derived.Test.YtdenhfhdobcfiaaDoorRlE
import Derived.Test.YtdenhfhdobcfiaaDoorRlA
import Derived.Test.YtdenhfhdobcfiaaDoorLexNum
import Derived.Test.YtdenhfhdobcfiaaDoorObj
namespace Go.Proofs.YtdenhfhdobcfiaaDoor
open Go.RowKit
set_option linter.unusedVariables false
set_option maxRecDepth 100000

structure Tk where
  kind : Int
  s : List UInt8
  n : Nat
  neg : Bool
  pos : Nat
def tkV (x : Tk) : Value := .agg #[.int .i64 x.kind, .string (strOf x.s), .int .u64 (x.n : Int), .bool x.neg, .int .i64 (x.pos : Int)]
def tkCells (x : Tk) : List Value := [.int .i64 x.kind, .string (strOf x.s), .int .u64 (x.n : Int), .bool x.neg, .int .i64 (x.pos : Int)]
def tk0 : Tk := ⟨0, [], 0, false, 0⟩
def oneT (t : List UInt8) : Tk × Nat :=
  if 0 < wordN t then (⟨1, t.take (wordN t), 0, false, 0⟩, wordN t)
  else if 0 < (numT t).2.2 then (⟨2, [], (numT t).1, (numT t).2.1, 0⟩, (numT t).2.2)
  else if 0 < (textT t).2 then (⟨3, (textT t).1, 0, false, 0⟩, (textT t).2)
  else match t with
    | [] => (tk0, 0)
    | c :: r => if markB c = true then (⟨4, [c], 0, false, 0⟩, 1) else (tk0, 0)
def oneV (r : Tk × Nat) : Value := .tuple #[tkV r.1, .int .i64 (r.2 : Int)]
def numV3 (r : Nat × Bool × Nat) : Value := .tuple #[.int .u64 (r.1 : Int), .bool r.2.1, .int .i64 (r.2.2 : Int)]
/-- What number is shown to answer elsewhere. -/
def NumSays : Prop := ∀ (t : List UInt8) (w : World), t.length ≤ 1000000 → Calls Tryd.prog 32 #[.string (strOf t)] w fun e w' => e = .returned (numV3 (numT t)) ∧ Below w.heap.size w w'

theorem box_set {w : World} {p : Nat} {cs : Array Value} {t : TypeId} (h : w.heap[p]? = some (.cells cs t (0, 0))) (h5 : cs.size = 5) (v0 v1 v2 v3 v4 : Value) :
    (((((w.setCell ⟨p, 0, none⟩ v0).setCell ⟨p, 1, none⟩ v1).setCell ⟨p, 2, none⟩ v2).setCell ⟨p, 3, none⟩ v3).setCell ⟨p, 4, none⟩ v4).heap[p]? = some (.cells #[v0, v1, v2, v3, v4] t (0, 0)) := by
  rw [obj_set (obj_set (obj_set (obj_set (obj_set h 0 v0) 1 v1) 2 v2) 3 v3) 4 v4]
  obtain ⟨l⟩ := cs
  match l, h5 with
  | [a, b, c, d, e], _ => rfl
theorem box_below {w0 w : World} {p : Nat} (h : Below w0.heap.size w0 w) (hp : w0.heap.size ≤ p) (v0 v1 v2 v3 v4 : Value) :
    Below w0.heap.size w0 (((((w.setCell ⟨p, 0, none⟩ v0).setCell ⟨p, 1, none⟩ v1).setCell ⟨p, 2, none⟩ v2).setCell ⟨p, 3, none⟩ v3).setCell ⟨p, 4, none⟩ v4) :=
  ((((h.setCell (p := ⟨p, 0, none⟩) hp v0).setCell (p := ⟨p, 1, none⟩) hp v1).setCell (p := ⟨p, 2, none⟩) hp v2).setCell (p := ⟨p, 3, none⟩) hp v3).setCell (p := ⟨p, 4, none⟩) hp v4

set_option maxHeartbeats 4000000 in
theorem rlone_any (HNS : NumSays) (t : List UInt8) (w : World) (hl : t.length ≤ 1000000) : Calls Tryd.prog 26 #[.string (strOf t)] w fun e w' => e = .returned (oneV (oneT t)) ∧ Below w.heap.size w w' := by
  have hres : Tryd.f26.results = #[.cell 2 36, .tmp 3] := by kernel_rfl
  have HRS := Lib.hid hres
  obtain ⟨n, hn⟩ : ∃ n, n = t.length := ⟨_, rfl⟩
  obtain ⟨str, hstr⟩ : ∃ str, str = strOf t := ⟨_, rfl⟩
  have hsz : str.size = n := by rw [hstr, str_size, hn]
  have HW := Lib.hid (fun w => rlword_any t w hl)
  have HN := Lib.hid (fun w => HNS t w hl)
  have HT := Lib.hid (fun w => rltext_any t w hl)
  rw [← hstr] at HW HN HT
  rw [← hstr]
  obtain ⟨k, hk⟩ : ∃ k, k = wordN t := ⟨_, rfl⟩
  have hkn : k ≤ n := by rw [hk, hn]; exact wordN_le t
  rw [← hk] at HW
  by_cases h0 : 0 < k
  · have HO : Hid (oneT t = (⟨1, t.take k, 0, false, 0⟩, k)) := Lib.hid (by unfold oneT; rw [← hk, if_pos h0])
    have hex : str.extract 0 k = strOf (t.take k) := by rw [hstr, strOf_extract, List.drop_zero]
    have g1 : decide ((k : Int) > 0) = true := decide_eq_true (by omega)
    have g2 : decide (0 < k) = true := decide_eq_true h0
    have g3 : (k : Int) ≤ (n : Int) := by omega
    have g4 : 0 ≤ (k : Int) := by omega
    clear hk hstr hn HN HT hres
    rw [HO.out]
    go_enter Tryd.func26, Tryd.ntmps26
    go_wp2_with (go_at_call 31; refine (HW.out _).mono ?_; rintro e w2 ⟨rfl, rfl⟩)
    refine bodyPost_ret (v := oneV (⟨1, t.take k, 0, false, 0⟩, k)) ?_ rfl ⟨rfl, (Below.refl _ _).alloc (Nat.le_refl _) _⟩
    simp only [results, HRS.out, oneV, tkV]
    go_simp
  · obtain rfl : k = 0 := by omega
    have HB0 : Hid (Below w.heap.size w (w.alloc (.cells #[.int .i64 0, .string ⟨#[]⟩, .int .u64 0, .bool false, .int .i64 0] 36))) := Lib.hid ((Below.refl _ w).alloc (Nat.le_refl _) _)
    obtain ⟨r, hr⟩ : ∃ r, r = numT t := ⟨_, rfl⟩
    rw [← hr] at HN
    by_cases h1 : 0 < r.2.2
    · have HO : Hid (oneT t = (⟨2, [], r.1, r.2.1, 0⟩, r.2.2)) := Lib.hid (by unfold oneT; rw [if_neg (by rw [← hk]; omega), ← hr, if_pos h1])
      clear hk hstr hn HT hres hr h0
      rw [HO.out]
      obtain ⟨nv, ng, ni⟩ := r
      unfold numV3 at HN
      dsimp only at h1 HN ⊢
      have g1 : decide ((ni : Int) > 0) = true := decide_eq_true (by omega)
      have g2 : decide (0 < ni) = true := decide_eq_true h1
      clear HO
      go_enter Tryd.func26, Tryd.ntmps26
      go_wp2_with (first
        | (go_at_call 31; refine (HW.out _).mono ?_; rintro e w2 ⟨rfl, rfl⟩)
        | (go_at_call 32; refine (HN.out _).mono ?_; rintro e w1 ⟨rfl, hb1⟩; have hbx := (hb1.block w.heap.size (by simp)).trans (heap_alloc_new w (.cells #[.int .i64 0, .string ⟨#[]⟩, .int .u64 0, .bool false, .int .i64 0] 36)); have r0 := obj_cell hbx 0; have q0 := obj_free hbx 0; have r1 := obj_cell hbx 1; have q1 := obj_free hbx 1; have r2 := obj_cell hbx 2; have q2 := obj_free hbx 2; have r3 := obj_cell hbx 3; have q3 := obj_free hbx 3; have r4 := obj_cell hbx 4; have q4 := obj_free hbx 4; have HBX := Lib.hid hbx; have HB1 := Lib.hid (HB0.out.trans (hb1.mono HB0.out.size)); clear hb1 hbx))
      refine bodyPost_ret (v := oneV (⟨2, [], nv, ng, 0⟩, ni)) ?_ rfl ⟨rfl, box_below HB1.out (Nat.le_refl _) _ _ _ _ _⟩
      simp only [results, HRS.out, oneV, tkV]
      go_simp
      rfl
    · have hk0 : ¬ 0 < wordN t := by rw [← hk]; omega
      have hr0 : ¬ 0 < (numT t).2.2 := by rw [← hr]; exact h1
      obtain ⟨nv, ng, ni⟩ := r
      obtain rfl : ni = 0 := by dsimp only at h1; omega
      unfold numV3 at HN
      dsimp only at HN
      obtain ⟨q, hq⟩ : ∃ q, q = textT t := ⟨_, rfl⟩
      rw [← hq] at HT
      obtain ⟨ts, ti⟩ := q
      unfold textV2 at HT
      dsimp only at HT
      by_cases h2 : 0 < ti
      · have HO : Hid (oneT t = (⟨3, ts, 0, false, 0⟩, ti)) := Lib.hid (by unfold oneT; rw [if_neg hk0, if_neg hr0, ← hq, if_pos h2])
        have g1 : decide ((ti : Int) > 0) = true := decide_eq_true (by omega)
        have g2 : decide (0 < ti) = true := decide_eq_true h2
        clear hk hstr hn hres hr h0 h1 hk0 hr0 hq
        rw [HO.out]
        go_enter Tryd.func26, Tryd.ntmps26
        go_wp2_with (first
          | (go_at_call 31; refine (HW.out _).mono ?_; rintro e w2 ⟨rfl, rfl⟩)
          | (go_at_call 32; refine (HN.out _).mono ?_; rintro e w1 ⟨rfl, hb1⟩; have hbx := (hb1.block w.heap.size (by simp)).trans (heap_alloc_new w (.cells #[.int .i64 0, .string ⟨#[]⟩, .int .u64 0, .bool false, .int .i64 0] 36)); have HBX := Lib.hid hbx; have HB1 := Lib.hid (HB0.out.trans (hb1.mono HB0.out.size)); clear hb1 hbx)
          | (go_at_call 33; refine (HT.out _).mono ?_; rintro e w2 ⟨rfl, hb2⟩; have hbx := (hb2.block w.heap.size (lt_of_block HBX.out)).trans HBX.out; have r0 := obj_cell hbx 0; have q0 := obj_free hbx 0; have r1 := obj_cell hbx 1; have q1 := obj_free hbx 1; have r2 := obj_cell hbx 2; have q2 := obj_free hbx 2; have r3 := obj_cell hbx 3; have q3 := obj_free hbx 3; have r4 := obj_cell hbx 4; have q4 := obj_free hbx 4; have HBY := Lib.hid hbx; have HB2 := Lib.hid (HB1.out.trans (hb2.mono HB1.out.size)); clear hb2 hbx))
        refine bodyPost_ret (v := oneV (⟨3, ts, 0, false, 0⟩, ti)) ?_ rfl ⟨rfl, box_below HB2.out (Nat.le_refl _) _ _ _ _ _⟩
        simp only [results, HRS.out, oneV, tkV]
        go_simp
      · obtain rfl : ti = 0 := by omega
        have h2' : ¬ 0 < (textT t).2 := by rw [← hq]; exact h2
        cases ht : t with
        | nil =>
          have HO : Hid (oneT t = (tk0, 0)) := Lib.hid (by unfold oneT; rw [if_neg hk0, if_neg hr0, if_neg h2']; rw [ht])
          have hn0 : n = 0 := by rw [hn, ht]; rfl
          subst hn0
          rw [← ht, HO.out]
          clear hk hstr hn hres hr h0 h1 hk0 hr0 hq h2 h2' ht
          go_enter Tryd.func26, Tryd.ntmps26
          go_wp2_with (first
            | (go_at_call 31; refine (HW.out _).mono ?_; rintro e w2 ⟨rfl, rfl⟩)
            | (go_at_call 32; refine (HN.out _).mono ?_; rintro e w1 ⟨rfl, hb1⟩; have hbx := (hb1.block w.heap.size (by simp)).trans (heap_alloc_new w (.cells #[.int .i64 0, .string ⟨#[]⟩, .int .u64 0, .bool false, .int .i64 0] 36)); have HBX := Lib.hid hbx; have HB1 := Lib.hid (HB0.out.trans (hb1.mono HB0.out.size)); clear hb1 hbx)
            | (go_at_call 33; refine (HT.out _).mono ?_; rintro e w2 ⟨rfl, hb2⟩; have hbx := (hb2.block w.heap.size (lt_of_block HBX.out)).trans HBX.out; have r0 := obj_cell hbx 0; have q0 := obj_free hbx 0; have r1 := obj_cell hbx 1; have q1 := obj_free hbx 1; have r2 := obj_cell hbx 2; have q2 := obj_free hbx 2; have r3 := obj_cell hbx 3; have q3 := obj_free hbx 3; have r4 := obj_cell hbx 4; have q4 := obj_free hbx 4; have HBY := Lib.hid hbx; have HB2 := Lib.hid (HB1.out.trans (hb2.mono HB1.out.size)); clear hb2 hbx))
          refine bodyPost_ret (v := oneV (tk0, 0)) ?_ rfl ⟨rfl, box_below HB2.out (Nat.le_refl _) _ _ _ _ _⟩
          simp only [results, HRS.out, oneV, tkV, tk0]
          go_simp
          rfl
        | cons c tr =>
          have hn1 : 0 < n := by rw [hn, ht]; simp
          have hs0 : 0 < str.size := by omega
          have EC : str[0]'hs0 = c := by
            have := hstr
            subst this
            subst ht
            rfl
          have HM := Lib.hid (fun w => rlmark_any c w)
          have hp0 : (0 : Int) < (n : Int) := by omega
          have hp1 : decide (0 < n) = true := decide_eq_true hn1
          have hp2 : (1 : Int) ≤ (n : Int) := by omega
          have hp3 : 1 ≤ n := hn1
          have hex : str.extract 0 1 = strOf [c] := by rw [hstr, strOf_extract, ht]; rfl
          cases hmk : markB c with
          | true =>
            have HO : Hid (oneT t = (⟨4, [c], 0, false, 0⟩, 1)) := Lib.hid (by unfold oneT; rw [if_neg hk0, if_neg hr0, if_neg h2']; rw [ht]; dsimp only; rw [if_pos hmk])
            rw [hmk] at HM
            rw [← ht, HO.out]
            clear hk hstr hn hres hr h0 h1 hk0 hr0 hq h2 h2' ht hmk
            go_enter Tryd.func26, Tryd.ntmps26
            go_wp2_with (first
              | (go_at_call 31; refine (HW.out _).mono ?_; rintro e w2 ⟨rfl, rfl⟩)
              | (go_at_call 32; refine (HN.out _).mono ?_; rintro e w1 ⟨rfl, hb1⟩; have hbx := (hb1.block w.heap.size (by simp)).trans (heap_alloc_new w (.cells #[.int .i64 0, .string ⟨#[]⟩, .int .u64 0, .bool false, .int .i64 0] 36)); have HBX := Lib.hid hbx; have HB1 := Lib.hid (HB0.out.trans (hb1.mono HB0.out.size)); clear hb1 hbx)
              | (go_at_call 33; refine (HT.out _).mono ?_; rintro e w2 ⟨rfl, hb2⟩; have hbx := (hb2.block w.heap.size (lt_of_block HBX.out)).trans HBX.out; have r0 := obj_cell hbx 0; have q0 := obj_free hbx 0; have r1 := obj_cell hbx 1; have q1 := obj_free hbx 1; have r2 := obj_cell hbx 2; have q2 := obj_free hbx 2; have r3 := obj_cell hbx 3; have q3 := obj_free hbx 3; have r4 := obj_cell hbx 4; have q4 := obj_free hbx 4; have HBY := Lib.hid hbx; have HB2 := Lib.hid (HB1.out.trans (hb2.mono HB1.out.size)); clear hb2 hbx)
              | (go_at_call 34; (try rw [EC]); refine (HM.out _).mono ?_; rintro e w3 ⟨rfl, rfl⟩))
            refine bodyPost_ret (v := oneV (⟨4, [c], 0, false, 0⟩, 1)) ?_ rfl ⟨rfl, box_below HB2.out (Nat.le_refl _) _ _ _ _ _⟩
            simp only [results, HRS.out, oneV, tkV]
            go_simp
          | false =>
            have HO : Hid (oneT t = (tk0, 0)) := Lib.hid (by unfold oneT; rw [if_neg hk0, if_neg hr0, if_neg h2']; rw [ht]; dsimp only; rw [if_neg (by simp [hmk])])
            rw [hmk] at HM
            rw [← ht, HO.out]
            clear hk hstr hn hres hr h0 h1 hk0 hr0 hq h2 h2' ht hmk
            go_enter Tryd.func26, Tryd.ntmps26
            go_wp2_with (first
              | (go_at_call 31; refine (HW.out _).mono ?_; rintro e w2 ⟨rfl, rfl⟩)
              | (go_at_call 32; refine (HN.out _).mono ?_; rintro e w1 ⟨rfl, hb1⟩; have hbx := (hb1.block w.heap.size (by simp)).trans (heap_alloc_new w (.cells #[.int .i64 0, .string ⟨#[]⟩, .int .u64 0, .bool false, .int .i64 0] 36)); have HBX := Lib.hid hbx; have HB1 := Lib.hid (HB0.out.trans (hb1.mono HB0.out.size)); clear hb1 hbx)
              | (go_at_call 33; refine (HT.out _).mono ?_; rintro e w2 ⟨rfl, hb2⟩; have hbx := (hb2.block w.heap.size (lt_of_block HBX.out)).trans HBX.out; have r0 := obj_cell hbx 0; have q0 := obj_free hbx 0; have r1 := obj_cell hbx 1; have q1 := obj_free hbx 1; have r2 := obj_cell hbx 2; have q2 := obj_free hbx 2; have r3 := obj_cell hbx 3; have q3 := obj_free hbx 3; have r4 := obj_cell hbx 4; have q4 := obj_free hbx 4; have HBY := Lib.hid hbx; have HB2 := Lib.hid (HB1.out.trans (hb2.mono HB1.out.size)); clear hb2 hbx)
              | (go_at_call 34; (try rw [EC]); refine (HM.out _).mono ?_; rintro e w3 ⟨rfl, rfl⟩))
            refine bodyPost_ret (v := oneV (tk0, 0)) ?_ rfl ⟨rfl, box_below HB2.out (Nat.le_refl _) _ _ _ _ _⟩
            simp only [results, HRS.out, oneV, tkV, tk0]
            go_simp
            rfl
end Go.Proofs.YtdenhfhdobcfiaaDoor
