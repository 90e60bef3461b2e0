/- Several texts in one: RwH, RwI. What each proves, and its conditions, stands at its own head. -/
import Derived.Test.YtalbiieagcandaaPkR46
import Derived.Test.YtalbiieagcandaaPkR38
/- The program's reading of fields one by one, yielded to the statement's closure. Conditions: those that each theorem names. -/
namespace Go.Proofs.Ytalbiieagcandaa
open Go.RowKit
set_option linter.unusedVariables false
set_option maxRecDepth 100000

/-- Since the world wB only the two counts turned: all was told as it must be, k fields. -/
structure YNow (wB : World) (pg pn : Nat) (k : Nat) (w : World) : Prop where
  touch : Touch (two pg pn) wB w
  good : w.heap[pg]? = some (.cells #[.bool true] 4 (0, 0))
  n : w.heap[pn]? = some (.cells #[.int .i64 (k : Int)] 3 (0, 0))
section
variable {wB w w' : World} {pg pn pm pa pt k p g : Nat} {most : Int} {l : List (Rw × Nat)}
theorem YNow.bel (h : YNow wB pg pn k w) (hb : Below w.heap.size w w') : YNow wB pg pn k w' :=
  ⟨h.touch.then_below hb, (hb.block pg (lt_of_block h.good)).trans h.good, (hb.block pn (lt_of_block h.n)).trans h.n⟩
theorem YNow.only (h : YNow wB pg pn k w) (ho : Only p g w w') (hp : wB.heap.size ≤ p) (hg : wB.heap.size ≤ g) (h1 : pg < wB.heap.size) (h2 : pn < wB.heap.size) : YNow wB pg pn k w' :=
  ⟨h.touch.trans ho.touch (fun i hi => by unfold two at hi; omega), (ho.block pg (lt_of_block h.good) (by omega) (by omega)).trans h.good, (ho.block pn (lt_of_block h.n) (by omega) (by omega)).trans h.n⟩
/-- What the closure reads, as it read then. -/
theorem YNow.at_ {k0 : Nat} (h : YNow wB pg pn k w) (h0 : YAt wB pg pn pm pa pt most l k0) (hR : ∀ A cap, wB.cell? ⟨pm, 0, none⟩ = some (.slice A l.length cap) → ∀ a, A = some a → 0 < l.length → ¬ two pg pn a.block) (hS : ∀ A cap, wB.cell? ⟨pa, 0, none⟩ = some (.slice A l.length cap) → ∀ a, A = some a → 0 < l.length → ¬ two pg pn a.block) : YAt w pg pn pm pa pt most l k := by
  have hcell : ∀ {q : Addr} {v : Value}, wB.cell? q = some v → ¬ two pg pn q.block → w.cell? q = some v := fun {q v} hc hn => (h.touch.cell (World.block_lt_of_cell? wB _ hc) hn).trans hc
  refine ⟨h.good, h.n, hcell h0.most_ (fun e => ?_), ?_, ?_, h0.ne, ⟨h0.far.1, lt_of_block h.good, lt_of_block h.n⟩, h0.lt⟩
  · rcases e with e | e
    · exact (h0.far.1 pg (.inl rfl)).2.2 e.symm
    · exact (h0.far.1 pn (.inr rfl)).2.2 e.symm
  · obtain ⟨A, cap, h1, h2⟩ := h0.m
    refine ⟨A, cap, hcell h1 (fun e => ?_), ⟨h2.le, h2.max, fun j x hj => ?_⟩⟩
    · rcases e with e | e
      · exact (h0.far.1 pg (.inl rfl)).1 e.symm
      · exact (h0.far.1 pn (.inr rfl)).1 e.symm
    · obtain ⟨b, off, e, c0, c1, c2, c3⟩ := h2.at_ j x hj
      have hn := hR A cap h1 _ e (by have := (List.getElem?_eq_some_iff.1 hj).1; rw [List.length_map] at this; omega)
      exact ⟨b, off, e, hcell c0 hn, hcell c1 hn, hcell c2 hn, hcell c3 hn⟩
  · obtain ⟨A, cap, h1, h2⟩ := h0.at_
    refine ⟨A, cap, hcell h1 (fun e => ?_), ⟨h2.le, h2.max, h2.nil, fun j x hj => ?_⟩⟩
    · rcases e with e | e
      · exact (h0.far.1 pg (.inl rfl)).2.1 e.symm
      · exact (h0.far.1 pn (.inr rfl)).2.1 e.symm
    · obtain ⟨b, off, e, c0⟩ := h2.at_ j x hj
      have hn := hS A cap h1 _ e (by have := (List.getElem?_eq_some_iff.1 hj).1; simp [ints] at this; omega)
      exact ⟨b, off, e, hcell c0 hn⟩
end
/-- The world, its new blocks left away. -/
def cutW (w : World) (n : Nat) : World := { w with heap := w.heap.extract 0 n }
theorem cutW_size {w : World} {n : Nat} (h : n ≤ w.heap.size) : (cutW w n).heap.size = n := by simp [cutW]; omega
theorem cutW_get {w : World} {n k : Nat} (hk : k < n) : (cutW w n).heap[k]? = w.heap[k]? := by
  show (w.heap.extract 0 n)[k]? = _
  rw [Array.getElem?_extract]
  by_cases h : k < w.heap.size
  · rw [if_pos (by omega), Nat.zero_add]
  · rw [Array.getElem?_eq_none (by omega)]; split <;> simp_all
theorem cutW_below {w : World} {n : Nat} (h : n ≤ w.heap.size) : Below (cutW w n).heap.size (cutW w n) w :=
  ⟨rfl, rfl, rfl, by rw [cutW_size h]; exact h, fun k hk => by rw [cutW_size h] at hk; exact (cutW_get hk).symm⟩
/-- The counts turned: the cursor reads the same bytes, for these hold no byte. -/
theorem Cur.counts {W w w' : World} {p g pg pn k : Nat} {bs : List UInt8} {s : St} (h : Cur W w p g bs s) (ht : Touch (two pg pn) w w') (hg : w.heap[pg]? = some (.cells #[.bool true] 4 (0, 0))) (hn : w.heap[pn]? = some (.cells #[.int .i64 (k : Int)] 3 (0, 0)))
    (h1 : ¬ two pg pn p) (h2 : ¬ two pg pn g) : ∃ W', Cur W' w' p g bs s := by
  obtain ⟨⟨a1, a2, a3, a4, a5, a6, a7⟩, a8⟩ := h
  have hsz : W.heap.size ≤ w'.heap.size := Nat.le_trans a6.size ht.size
  have ep := ht.block p a4 h1
  have eg := ht.block g a5 h2
  refine ⟨cutW w' W.heap.size, ⟨by rw [cutW_size hsz]; exact a1, by rw [cutW_size hsz]; exact a2, a3, Nat.lt_of_lt_of_le a4 ht.size, Nat.lt_of_lt_of_le a5 ht.size, cutW_below hsz, a7⟩, ?_⟩
  rcases a8 with ⟨x, y⟩ | ⟨l, r, A, cap, c, x, y, z, t⟩
  · exact .inl ⟨x, ep.trans y⟩
  · refine .inr ⟨l, r, A, cap, c, x, ⟨y.le, y.max, y.nil, fun j d hj => ?_⟩, ep.trans z, t.keep eg⟩
    obtain ⟨b, off, e, hc⟩ := y.at_ j d hj
    have hb := World.block_lt_of_cell? W _ hc
    have hcw := (a6.cell (p := ⟨b, off + j, none⟩) hb).trans hc
    have hno : ¬ two pg pn b := fun h => by
      rcases h with h | h
      · subst h
        rw [obj_cell hg] at hcw
        cases hi : off + j with
        | zero => rw [hi] at hcw; simp at hcw
        | succ i => rw [hi] at hcw; simp at hcw
      · subst h
        rw [obj_cell hn] at hcw
        cases hi : off + j with
        | zero => rw [hi] at hcw; simp at hcw
        | succ i => rw [hi] at hcw; simp at hcw
    refine ⟨b, off, e, ?_⟩
    rw [World.cell?_of_block (a := ⟨b, off + j, none⟩) (cutW_get hb), World.cell?_of_block (a := ⟨b, off + j, none⟩) (ht.block b (Nat.lt_of_lt_of_le hb a6.size) hno)]
    exact hcw
/-- How it ended: K fields were told. -/
def YDone (wB : World) (pg pn : Nat) (most : Int) (N : Nat) (w : World) : Prop :=
  ∃ K, YNow wB pg pn K w ∧ ((K = N ∧ ∀ j, j < N → ((j : Int) + 1 == most) = false) ∨ (1 ≤ K ∧ K ≤ N ∧ (K : Int) = most))

set_option maxHeartbeats 4000000 in
theorem fields_y {wB W0 : World} {pg pn pm pa pt p b : Nat} {most : Int} {bs : List UInt8} {S0 : Nat → Prop} {w : World} (hlen : bs.length ≤ 140737488351232)
    (hat : ∀ k w, YNow wB pg pn k w → YAt w pg pn pm pa pt most (getR bs).1 k) (hgn : pg < wB.heap.size ∧ pn < wB.heap.size)
    (h0 : ItR wB.heap.size W0 p b bs 0 S0 w) (hb : wB.heap.size ≤ b) (hy : YNow wB pg pn 0 w) :
    Calls Try.prog 43 #[.func (.func 20) #[] #[.pointer (some ⟨pg, 0, none⟩), .pointer (some ⟨pn, 0, none⟩), .pointer (some ⟨pm, 0, none⟩), .pointer (some ⟨pa, 0, none⟩), .pointer (some ⟨pt, 0, none⟩)], .pointer (some ⟨b, 0, none⟩)] w
      fun e w' => (∃ v, e = .returned v) ∧ YDone wB pg pn most (getR bs).1.length w' := by
  obtain ⟨N, hN⟩ : ∃ N, N = (getR bs).1.length := ⟨_, rfl⟩
  rw [← hN]
  have HN := Lib.hid hN
  have HA := Lib.hid hat
  have HGN := Lib.hid hgn
  have HI := Lib.hid h0
  have HBB := Lib.hid hb
  have HY := Lib.hid hy
  clear hN hat hgn h0 hb hy
  go_enter Try.func43, Try.ntmps43
  go_wp2
  go_loopw [3] (fun x wr => ∃ k S W0, ItR wB.heap.size W0 p b bs k S wr ∧ YNow wB pg pn k wr ∧ ∀ j, j < k → ((j : Int) + 1 == most) = false) (fun x wr => bs.length + 1 - placeAt p wr)
  case atStart => exact ⟨0, S0, W0, HI.out, HY.out, fun j h => absurd h (Nat.not_lt_zero _)⟩
  case round =>
    obtain ⟨k, S1, W1, ⟨s, g, hh, hk, hc, hb, hS, n1, n2, b1, b2, hpl⟩, hyn, hjm⟩ := hrel
    have HPS := Lib.hid hpl
    have HYN := Lib.hid hyn
    have HJM := Lib.hid hjm
    clear hpl hyn hjm
    have HMO := Lib.hid (more_cur hc)
    have HAT := Lib.hid (fun m => at_cur (hc.bel (drawn_below wr m)))
    have hbd : ∀ m, (wr.drewN m).cell? ⟨b, 0, none⟩ = some (.pointer (some ⟨p, 0, none⟩)) := fun m => hb
    have HS := Lib.hid hS
    cases hm : s.more with
    | false =>
      have HD := Lib.hid (half_done hh hk hm)
      rw [hm] at HMO
      clear hh hk hc hS hm b1 b2
      go_wp2_with (first
        | (go_at_call 44; refine HMO.out.mono ?_; rintro e w2 ⟨rfl, m, rfl⟩))
      go_end0
      exact ⟨⟨_, rfl⟩, k, HYN.out.bel (drawn_below wr m), .inl ⟨by rw [HN.out]; exact HD.out.1, fun j hj => HJM.out j (by have := HD.out.1; have := HN.out; omega)⟩⟩
    | true =>
      rw [hm] at HMO
      have hne : s.fr ≠ [] := by rw [hh.fr]; simp
      have HPL := Lib.hid (cur_place hc hne)
      have HHA := Lib.hid (half_at hh)
      obtain ⟨x, hx⟩ : ∃ x, x = (oneS bs s).1 := ⟨_, rfl⟩
      obtain ⟨s2, hs2⟩ : ∃ s2, s2 = (oneS bs s).2 := ⟨_, rfl⟩
      have HRD : Hid (∀ m, Calls Try.prog 46 #[.pointer (some ⟨p, 0, none⟩)] (wr.drewN m) fun e w2 => e = .returned (rawV x) ∧ ∃ g2, StepR wB.heap.size W1 p b g bs s s2 wr w2 g2) :=
        Lib.hid (fun m => (read_cur (hc.bel (drawn_below wr m)) hlen).mono fun e w2 h => by rw [hx, hs2]; exact stepR_one (drawn_below wr m) hc hb n1 n2 h)
      have HB := Lib.hid (And.intro b1 (And.intro b2 (show wB.heap.size ≤ wr.heap.size from Nat.le_trans b1 (Nat.le_of_lt hc.1.2.2.2.1))))
      obtain ⟨a0, ha0⟩ : ∃ a0, a0 = s.at_ := ⟨_, rfl⟩
      rw [← ha0] at HAT
      have HYS : Hid (∀ w2 g2, StepR wB.heap.size W1 p b g bs s s2 wr w2 g2 → YNow wB pg pn k w2) := Lib.hid (fun w2 g2 hst => HYN.out.only hst.only b1 b2 HGN.out.1 HGN.out.2)
      by_cases hbad : s2.fr = []
      · have HD := Lib.hid (half_fail hh hk hm (by rw [← hs2]; exact hbad))
        have HOK : Hid (s2.oks = false) := by show _ = _; unfold St.oks; rw [hbad]; rfl
        clear hh hk hc hS hm b1 b2 hne hx hs2 ha0 hbad
        obtain ⟨num, wire, m1, st⟩ := x
        unfold rawV at HRD
        go_wp2_with (first
          | (go_at_call 44; refine HMO.out.mono ?_; rintro e w2 ⟨rfl, m, rfl⟩)
          | (go_at_call 45; refine (HAT.out m).mono ?_; rintro e w2 ⟨rfl, rfl⟩)
          | (go_at_call 46; refine (HRD.out m).mono ?_; rintro e w2 ⟨rfl, g2, hst⟩; have HST := Lib.hid (hst.bel ((Below.refl _ w2).alloc (Nat.le_refl _) (.cells #[.int .i64 num, .int .i64 wire, .int .u64 (m1 : Int), .string (strOf st)] 28))); have hbx := HST.out.box; clear hst)
          | (go_at_call 29; refine (ok_cur HST.out.cur).mono ?_; rw [HOK.out]; rintro e w3 ⟨rfl, rfl⟩))
        refine bodyPost_ret (results_none rfl _ _ _) rfl ?_
        exact ⟨⟨_, rfl⟩, k, HYS.out _ _ HST.out, .inl ⟨by rw [HN.out]; exact HD.out.1, fun j hj => HJM.out j (by have := HD.out.1; have := HN.out; omega)⟩⟩
      · obtain ⟨hxk, hnx⟩ := half_next hh hk hm (by rw [← hs2]; exact hbad)
        have HXK := Lib.hid hxk
        have HLT : Hid (s.at_ < s2.at_) := Lib.hid (by rw [hs2]; exact one_at (by rw [← hs2]; exact hbad))
        have HNX := Lib.hid hnx
        have HNB := Lib.hid hbad
        have HX := Lib.hid hx
        have HS2 := Lib.hid hs2
        have HA0 := Lib.hid ha0
        have HOK : Hid (s2.oks = true) := by
          show _ = _
          unfold St.oks
          cases hf : s2.fr with
          | nil => exact absurd hf hbad
          | cons l r => rfl
        have HKN : Hid (k < N) := by show k < N; rw [HN.out]; exact (List.getElem?_eq_some_iff.1 hxk).1
        have HPN := Lib.hid (And.intro n1 n2)
        have HYE : Hid (∀ w2 g2, StepR wB.heap.size W1 p b g bs s s2 wr w2 g2 → Calls Try.prog 20 #[.int .i64 (a0 : Int), rawV x, .pointer (some ⟨pg, 0, none⟩), .pointer (some ⟨pn, 0, none⟩), .pointer (some ⟨pm, 0, none⟩), .pointer (some ⟨pa, 0, none⟩), .pointer (some ⟨pt, 0, none⟩)] w2
            fun e w' => e = .returned (.bool (!((k : Int) + 1 == most))) ∧ YNow wB pg pn (k + 1) w' ∧ ∃ g3 W2, ItR wB.heap.size W2 p b bs (k + 1) (two p g3) w') := Lib.hid (fun w2 g2 hst => by
          have hyn := HYS.out w2 g2 hst
          refine (each_y (HA.out k w2 hyn) (by rw [hxk, ha0, hx])).mono ?_
          rintro e w' ⟨he, ht, hg1, hn1⟩
          refine ⟨he, ⟨hyn.touch.trans ht (fun i hi => .inl hi), hg1, hn1⟩, g2, ?_⟩
          have hnew : g2 ≠ b := by
            rcases hst.new with e | e
            · exact fun h => n2 (by rw [← e, h])
            · exact fun h => by have := lt_of_cell hb; omega
          have e2 : (oneS bs s).2 = s2 := HS2.out.symm
          have hg2 : wB.heap.size ≤ g2 := by have := HB.out.2.1; have := HB.out.2.2; rcases hst.new with e | e <;> omega
          have hpp := HB.out.1
          have hgn := HGN.out
          have hbb := HBB.out
          have hno : ∀ i, wB.heap.size ≤ i → ¬ (i = pg ∨ i = pn) := fun i hi h => by omega
          have hno' : ∀ i, wB.heap.size ≤ i → ¬ two pg pn i := fun i hi h => hno i hi h
          obtain ⟨W2, hc2⟩ := hst.cur.counts ht hyn.good hyn.n (hno p hpp) (hno g2 hg2)
          refine ⟨W2, s2, g2, by rw [← e2]; exact hnx, (List.getElem?_eq_some_iff.1 hxk).1, hc2, (ht.cell (p := ⟨b, 0, none⟩) (lt_of_cell hst.box) (hno b hbb)).trans hst.box, fun i => Iff.rfl, n1, hnew.symm, hpp, hg2, fun j y hj hy => ?_⟩
          by_cases hjk : j < k
          · exact Nat.lt_trans (HPS.out j y hjk hy) HLT.out
          · obtain rfl : j = k := by omega
            have e := hxk.symm.trans hy
            injection e with e
            rw [← e]
            exact HLT.out)
        clear hh hk hc hS hm b1 b2 hne hx hs2 ha0 hbad hxk hnx
        obtain ⟨num, wire, m1, st⟩ := x
        unfold rawV at HRD HYE
        obtain ⟨bq, hbq⟩ : ∃ bq, bq = ((k : Int) + 1 == most) := ⟨_, rfl⟩
        rw [← hbq] at HYE
        have HBQ := Lib.hid hbq
        clear hbq
        cases bq <;>
        · go_wp2_with (first
            | (go_at_call 44; refine HMO.out.mono ?_; rintro e w2 ⟨rfl, m, rfl⟩)
            | (go_at_call 45; refine (HAT.out m).mono ?_; rintro e w2 ⟨rfl, rfl⟩)
            | (go_at_call 46; refine (HRD.out m).mono ?_; rintro e w2 ⟨rfl, g2, hst⟩; have HST := Lib.hid (hst.bel ((Below.refl _ w2).alloc (Nat.le_refl _) (.cells #[.int .i64 num, .int .i64 wire, .int .u64 (m1 : Int), .string (strOf st)] 28))); have hbx := HST.out.box; have hnw := heap_alloc_new w2 (.cells #[.int .i64 num, .int .i64 wire, .int .u64 (m1 : Int), .string (strOf st)] 28); have x0 := obj_cell hnw 0; have x1 := obj_cell hnw 1; have x2 := obj_cell hnw 2; have x3 := obj_cell hnw 3; clear hst hnw)
            | (go_at_call 29; refine (ok_cur HST.out.cur).mono ?_; rw [HOK.out]; rintro e w3 ⟨rfl, rfl⟩)
            | (go_at_call 20; refine (HYE.out _ _ HST.out).mono ?_; rintro e w4 ⟨rfl, hy4, g4, W4, hi4⟩; have HY4 := Lib.hid hy4; have HI4 := Lib.hid hi4; clear hy4 hi4))
          first
            | (refine bodyPost_ret (results_none rfl _ _ _) rfl ?_
               exact ⟨⟨_, rfl⟩, k + 1, HY4.out, .inr ⟨by omega, HKN.out, by have := eq_of_beq HBQ.out.symm; omega⟩⟩)
            | (go_roundw
               case rel =>
                 refine ⟨k + 1, _, W4, HI4.out, HY4.out, fun j hj => ?_⟩
                 by_cases hjk : j < k
                 · exact HJM.out j hjk
                 · obtain rfl : j = k := by omega
                   exact HBQ.out.symm
               case measure =>
                 obtain ⟨s3, g3, hh3, _, hc3, _, _, _, _, _, _, hp3⟩ := HI4.out
                 have h1 := hp3 k _ (Nat.lt_succ_self k) HXK.out
                 have h2 := cur_place hc3 (by rw [hh3.fr]; simp)
                 have h3 := half_at hh3
                 have h4 := HPL.out
                 rw [h2, h4]
                 dsimp only at h1
                 omega)
end Go.Proofs.Ytalbiieagcandaa

/- The law RawEach. Conditions: those that each theorem names. -/
namespace Go.Proofs.Ytalbiieagcandaa
open Go.RowKit
set_option linter.unusedVariables false
set_option maxRecDepth 100000

theorem each_any (A : Option Addr) (n cap : Nat) (bs : List UInt8) (w : World) (hn : n = bs.length) (hb : Bs w A cap bs) (hl : bs.length ≤ 1000000) :
    Calls Try.prog 19 #[.slice A n cap] w fun e w' => ∃ kb A1 cap1, e = .returned (.func (.func 35) #[] #[.pointer (some ⟨kb, 0, none⟩)]) ∧ Below w.heap.size w w' ∧ w'.cell? ⟨kb, 0, none⟩ = some (.slice A1 bs.length cap1) ∧ Bs w' A1 cap1 bs := by
  have hC := Lib.hid (clone_n A n cap bs w hn hb (by omega))
  clear hb hn
  go_enter Try.func19, Try.ntmps19
  go_wp2_with (go_at_call 34; refine hC.out.mono ?_; rintro e w1 ⟨A1, cap1, rfl, hB1, hb1⟩)
  go_ret
  exact ⟨w1.heap.size, A1, cap1, rfl, hb1.alloc hb1.size _, obj_cell (heap_alloc_new w1 _) 0, hB1.alloc _⟩

theorem each1_y {pg pn pm pa pt kb : Nat} {most : Int} {bs : List UInt8} {A : Option Addr} {cap : Nat} {w : World} (hl : bs.length ≤ 1000000) (hk : w.cell? ⟨kb, 0, none⟩ = some (.slice A bs.length cap)) (hb : Bs w A cap bs)
    (hat : ∀ k w', YNow w pg pn k w' → YAt w' pg pn pm pa pt most (getR bs).1 k) (hy : YNow w pg pn 0 w) :
    Calls Try.prog 35 #[.func (.func 20) #[] #[.pointer (some ⟨pg, 0, none⟩), .pointer (some ⟨pn, 0, none⟩), .pointer (some ⟨pm, 0, none⟩), .pointer (some ⟨pa, 0, none⟩), .pointer (some ⟨pt, 0, none⟩)], .pointer (some ⟨kb, 0, none⟩)] w
      fun e w' => (∃ v, e = .returned v) ∧ YDone w pg pn most (getR bs).1.length w' := by
  obtain ⟨n, hn⟩ : ∃ n, n = bs.length := ⟨_, rfl⟩
  rw [← hn] at hk
  have HF := Lib.hid (from_any A n cap bs w hn hb (by omega))
  have HA := Lib.hid hat
  have HY := Lib.hid hy
  have HG := Lib.hid (And.intro (lt_of_block hy.good) (lt_of_block hy.n))
  have HL := Lib.hid hl
  clear hb hat hy hn hl
  go_enter Try.func35, Try.ntmps35
  go_wp2_with (first
    | (go_at_call 27; refine HF.out.mono ?_; rintro e w1 ⟨W0, p, g, rfl, hbW, hb1, hc⟩; have HC := Lib.hid hc; have HB1 := Lib.hid hb1; have HBW := Lib.hid hbW; clear hc hb1 hbW)
    | (go_at_call 28; refine (fields_any _ _).mono ?_; rintro e w2 ⟨rfl, hw2⟩; have HW2 := Lib.hid hw2; clear hw2)
    | (go_at_call 43
       have hbel2 : Below w1.heap.size w1 w2 := by rw [HW2.out]; exact (Below.refl _ _).alloc (Nat.le_refl _) _
       have hbox : w2.heap[w1.heap.size]? = some (.cells #[.pointer (some ⟨p, 0, none⟩)] 53 (0, 0)) := by rw [HW2.out]; exact heap_alloc_new _ _
       have hc := HC.out
       have hp := hc.1.2.2.2.1
       have hg := hc.1.2.2.2.2.1
       have hpW := hc.1.1
       have hgW := hc.1.2.1
       have hBW := HBW.out.size
       have hit : ItR w.heap.size W0 p w1.heap.size bs 0 (two p g) w2 := ⟨_, g, half_start bs, Nat.zero_le _, hc.bel hbel2, obj_cell hbox 0, fun i => Iff.rfl, by omega, by omega, by omega, by omega, fun j x hj => absurd hj (Nat.not_lt_zero _)⟩
       refine (fields_y (by have := HL.out; omega) HA.out HG.out hit HB1.out.size (HY.out.bel (HB1.out.trans (hbel2.mono HB1.out.size)))).mono ?_
       rintro e w3 ⟨⟨v, rfl⟩, hd⟩))
  go_end0
  exact ⟨⟨_, rfl⟩, hd⟩

theorem getsR_len (bs : List UInt8) : ∀ (f : Nat) (s : St), (getsR bs f s).1.length ≤ f
  | 0, s => Nat.le_refl _
  | f + 1, s => by
    have := getsR_len bs f (oneS bs s).2
    unfold getsR
    split
    · split
      · simp
      · simp; omega
    · simp
theorem four_allocs (w : World) (o1 o2 o3 o4 : Obj) (w3 : World) (h : w3 = (((w.alloc o1).alloc o2).alloc o3).alloc o4) :
    w3.heap[w.heap.size]? = some o1 ∧ w3.heap[w.heap.size + 1]? = some o2 ∧ w3.heap[w.heap.size + 1 + 1]? = some o3 ∧ w3.heap[w.heap.size + 1 + 1 + 1]? = some o4 ∧ Below w.heap.size w w3 := by
  have s1 : (w.alloc o1).heap.size = w.heap.size + 1 := by simp
  have s2 : ((w.alloc o1).alloc o2).heap.size = w.heap.size + 1 + 1 := by simp
  have s3 : (((w.alloc o1).alloc o2).alloc o3).heap.size = w.heap.size + 1 + 1 + 1 := by simp
  subst h
  refine ⟨?_, ?_, ?_, ?_, (((Below.refl _ w).alloc (Nat.le_refl _) _).alloc (by simp) _).alloc (by simp; omega) _ |>.alloc (by simp; omega) _⟩
  · rw [Below.heap_alloc _ _ _ (by omega), Below.heap_alloc _ _ _ (by omega), Below.heap_alloc _ _ _ (by omega)]; exact heap_alloc_new w o1
  · rw [Below.heap_alloc _ _ _ (by omega), Below.heap_alloc _ _ _ (by omega), ← s1]; exact heap_alloc_new _ o2
  · rw [Below.heap_alloc _ _ _ (by omega), ← s2]; exact heap_alloc_new _ o3
  · rw [← s3]; exact heap_alloc_new _ o4

set_option maxHeartbeats 4000000 in
theorem raweach_walk (w : World) (A : Option Addr) (cap : Nat) (bs : List UInt8) (hb : Bs w A cap bs) (hl : bs.length ≤ 140737488351232) (most : Int) (hm : -9223372036854775808 ≤ most ∧ most < 9223372036854775808) :
    Calls Try.prog 5 #[.slice A bs.length cap, .int .i64 most] w fun e w' => e = .returned (.bool true) ∧ Below w.heap.size w w' := by
  have HLV : Hid (∀ w, Calls Try.prog 7 #[] w fun e w' => e = .returned (.bool true) ∧ Below w.heap.size w w') := Lib.hid (rawlive_any raw_ok)
  have hle := hb.le
  have hmx := hb.max
  unfold maxLen at hmx
  obtain ⟨n, hn⟩ : ∃ n, n = bs.length := ⟨_, rfl⟩
  rw [← hn] at hle hl ⊢
  have HB := Lib.hid hb
  have HN := Lib.hid hn
  obtain ⟨w0, hw0⟩ : ∃ w0, w0 = w.alloc (.cells #[.int .i64 most] 3) := ⟨_, rfl⟩
  have hb0 : Below w.heap.size w w0 := by rw [hw0]; exact (Below.refl _ w).alloc (Nat.le_refl _) _
  have hmo : w0.heap[w.heap.size]? = some (.cells #[.int .i64 most] 3 (0, 0)) := by rw [hw0]; exact heap_alloc_new w _
  have HB0 := Lib.hid hb0
  have HMO := Lib.hid hmo
  have HW0 := Lib.hid hw0
  clear hb hn hb0 hmo
  by_cases h1000 : n ≤ 1000
  · have g0 : decide ((n : Int) > 1000) = false := decide_eq_false (by omega)
    have HRG := Lib.hid (rget_raw w0 (HB.out.below HB0.out (Nat.le_refl _)) HN.out (by have := HN.out; omega))
    go_enter Try.func5, Try.ntmps5
    go_wp2_with (first
      | (go_at_call 18
         rw [← HW0.out]
         refine HRG.out.mono ?_
         rintro e w2 ⟨A2, cap2, A3, cap3, rfl, hr2, hs2, hb2⟩
         have HR2 := Lib.hid hr2
         have HS2 := Lib.hid hs2
         have HB2 := Lib.hid (HB0.out.trans (hb2.mono HB0.out.size))
         have HB02 := Lib.hid hb2
         clear hr2 hs2 hb2))
    obtain ⟨w3, hw3⟩ : ∃ w3, w3 = (((w2.alloc (.cells #[.slice A2 (getR bs).1.length cap2] 22)).alloc (.cells #[.slice A3 (getR bs).1.length cap3] 39)).alloc (.cells #[.int .i64 0] 3)).alloc (.cells #[.bool true] 4) := ⟨_, rfl⟩
    rw [← hw3]
    obtain ⟨N, hNN⟩ : ∃ N, N = (getR bs).1.length := ⟨_, rfl⟩
    rw [← hNN] at hw3 ⊢
    obtain ⟨m1, m2, m3, m4, hb23⟩ := four_allocs _ _ _ _ _ _ hw3
    have HEA := Lib.hid (each_any A n cap bs w3 HN.out (HB.out.below (HB2.out.trans (hb23.mono HB2.out.size)) (Nat.le_refl _)) (by have := HN.out; omega))
    have M1 := Lib.hid m1
    have M2 := Lib.hid m2
    have M3 := Lib.hid m3
    have M4 := Lib.hid m4
    have HB3 := Lib.hid (HB2.out.trans (hb23.mono HB2.out.size))
    have HB23 := Lib.hid hb23
    have HNN := Lib.hid hNN
    obtain ⟨pm, hpm⟩ : ∃ pm, pm = w2.heap.size := ⟨_, rfl⟩
    rw [← hpm] at M1 M2 M3 M4 ⊢
    have HPM := Lib.hid hpm
    clear m1 m2 m3 m4 hb23 hw3 hNN hpm
    have HFN : ∀ (q : Nat) (w : World), (binOp .eql 44 (.func (.func 35) #[] #[.pointer (some ⟨q, 0, none⟩)]) .nilFunc).run Try.prog w = .ok (.bool false) w := fun _ _ => rfl
    go_wp2_with (go_at_call 19; refine HEA.out.mono ?_; rintro e w4 ⟨kb, A1, cap1, rfl, hb4, hk4, hB4⟩; have HB4 := Lib.hid hb4; have HK4 := Lib.hid hk4; have HBB4 := Lib.hid hB4; clear hb4 hk4 hB4)
    have hp2 := HB4.out
    have hs3 : w3.heap.size ≤ w4.heap.size := hp2.size
    have e1 := (hp2.block _ (lt_of_block M1.out)).trans M1.out
    have e2 := (hp2.block _ (lt_of_block M2.out)).trans M2.out
    have e3 := (hp2.block _ (lt_of_block M3.out)).trans M3.out
    have e4 := (hp2.block _ (lt_of_block M4.out)).trans M4.out
    have b04 : Below w0.heap.size w0 w4 := HB02.out.trans ((HB23.out.trans (hp2.mono HB23.out.size)).mono HB02.out.size)
    have hpt : w.heap.size < w0.heap.size := lt_of_block HMO.out
    have hpt2 : w0.heap.size ≤ pm := by rw [HPM.out]; exact HB02.out.size
    have et := (b04.block _ hpt).trans HMO.out
    have b24 : Below w2.heap.size w2 w4 := HB23.out.trans (hp2.mono HB23.out.size)
    have hNl : N ≤ 1000000 := by
      have := getsR_len bs (bs.length + 1) ⟨0, [bs.length]⟩
      have h2 := HNN.out
      have h3 := HN.out
      unfold getR at h2
      omega
    have hR2 : Raws w4 A2 cap2 ((getR bs).1.map Prod.fst) := HR2.out.bel b24
    have hS2 : Sl w4 A3 cap3 (ints ((getR bs).1.map Prod.snd)) := HS2.out.keep (fun q hq => b24.cell hq)
    have c1 : w4.cell? ⟨pm, 0, none⟩ = some (.slice A2 N cap2) := obj_cell e1 0
    have c2 : w4.cell? ⟨pm + 1, 0, none⟩ = some (.slice A3 N cap3) := obj_cell e2 0
    have hyat : YAt w4 (pm + 1 + 1 + 1) (pm + 1 + 1) pm (pm + 1) w.heap.size most (getR bs).1 0 :=
      ⟨e4, e3, obj_cell et 0, ⟨A2, cap2, by rw [← HNN.out]; exact c1, hR2⟩, ⟨A3, cap3, by rw [← HNN.out]; exact c2, hS2⟩, by omega, ⟨fun b hb => by rcases hb with rfl | rfl <;> (refine ⟨?_, ?_, ?_⟩ <;> omega), lt_of_block e4, lt_of_block e3⟩, by rw [← HNN.out]; exact hNl⟩
    have hA2 : ∀ A cap, w4.cell? ⟨pm, 0, none⟩ = some (.slice A (getR bs).1.length cap) → ∀ a, A = some a → 0 < (getR bs).1.length → ¬ two (pm + 1 + 1 + 1) (pm + 1 + 1) a.block := by
      intro A cap hc a ha h0 ht
      rw [c1] at hc
      cases hc
      obtain ⟨b, off, e, q0, _⟩ := HR2.out.at_ 0 _ (List.getElem?_eq_getElem (by rw [List.length_map]; exact h0))
      rw [e] at ha
      cases ha
      have := lt_of_cell q0
      have := HPM.out
      unfold two at ht
      dsimp only at ht
      omega
    have hA3 : ∀ A cap, w4.cell? ⟨pm + 1, 0, none⟩ = some (.slice A (getR bs).1.length cap) → ∀ a, A = some a → 0 < (getR bs).1.length → ¬ two (pm + 1 + 1 + 1) (pm + 1 + 1) a.block := by
      intro A cap hc a ha h0 ht
      rw [c2] at hc
      cases hc
      obtain ⟨b, off, e, q0⟩ := HS2.out.at_ 0 _ (List.getElem?_eq_getElem (by simp [ints]; exact h0))
      rw [e] at ha
      cases ha
      have := lt_of_cell q0
      have := HPM.out
      unfold two at ht
      dsimp only at ht
      omega
    have hyn : YNow w4 (pm + 1 + 1 + 1) (pm + 1 + 1) 0 w4 := ⟨Touch.refl _ _, e4, e3⟩
    have HEY := Lib.hid (each1_y (pm := pm) (pa := pm + 1) (pt := w.heap.size) (most := most) (by have := HN.out; omega) HK4.out HBB4.out (fun k w' h => h.at_ hyat hA2 hA3) hyn)
    have ET := Lib.hid et
    have C1 := Lib.hid c1
    have HB04 := Lib.hid (HB0.out.trans (b04.mono HB0.out.size))
    rw [← HNN.out] at HEY
    clear hp2 hs3 e1 e2 e3 e4 b04 et b24 hR2 hS2 c1 c2 hyat hA2 hA3 hyn
    go_wp2_with fail
    refine HEY.out.mono ?_
    rintro e w5 ⟨⟨v, rfl⟩, K, hyn, hK⟩
    have hcase : (K = N ∧ ¬ (1 ≤ most ∧ most < (N : Int))) ∨ ((K : Int) = most ∧ 1 ≤ most ∧ most < (N : Int)) := by
      rcases hK with ⟨rfl, h⟩ | ⟨h1, h2, h3⟩
      · refine .inl ⟨rfl, fun hh => ?_⟩
        have := h (most.toNat - 1) (by omega)
        have h2 := beq_eq_false_iff_ne.1 this
        omega
      · by_cases hlt : most < (N : Int)
        · exact .inr ⟨h3, by omega, hlt⟩
        · exact .inl ⟨by omega, fun hh => hlt hh.2⟩
    have q1 : w5.cell? ⟨pm, 0, none⟩ = some (.slice A2 N cap2) := (hyn.touch.cell (p := ⟨pm, 0, none⟩) (lt_of_cell C1.out) (fun h => by unfold two at h; dsimp only at h; omega)).trans C1.out
    have q2 : w5.cell? ⟨w.heap.size, 0, none⟩ = some (.int .i64 most) := (hyn.touch.cell (p := ⟨w.heap.size, 0, none⟩) (lt_of_block ET.out) (fun h => by unfold two at h; dsimp only at h; omega)).trans (obj_cell ET.out 0)
    have q3 := obj_cell hyn.good 0
    have q4 := obj_cell hyn.n 0
    have HB5 := Lib.hid (HB04.out.trans (hyn.touch.below HB04.out.size (fun i h => by unfold two at h; omega)))
    clear hyn hK
    rcases hcase with ⟨rfl, hno⟩ | ⟨rfl, h1, h2⟩
    · by_cases h1 : 1 ≤ most
      · have r1 : decide (most ≥ 1) = true := decide_eq_true h1
        have r2 : decide (1 ≤ most) = true := decide_eq_true h1
        have r3 : decide (most < (K : Int)) = false := decide_eq_false (fun h => hno ⟨h1, h⟩)
        clear hno h1
        go_wp2_with (go_at_call 7; refine (HLV.out _).mono ?_; rintro e w6 ⟨rfl, hb6⟩)
        go_ret
        exact ⟨rfl, HB5.out.trans (hb6.mono HB5.out.size)⟩
      · have r1 : decide (most ≥ 1) = false := decide_eq_false h1
        have r2 : decide (1 ≤ most) = false := decide_eq_false h1
        clear hno h1
        go_wp2_with (go_at_call 7; refine (HLV.out _).mono ?_; rintro e w6 ⟨rfl, hb6⟩)
        go_ret
        exact ⟨rfl, HB5.out.trans (hb6.mono HB5.out.size)⟩
    · have r1 : decide ((K : Int) ≥ 1) = true := decide_eq_true h1
      have r2 : decide (1 ≤ (K : Int)) = true := decide_eq_true h1
      have r3 : decide ((K : Int) < (N : Int)) = true := decide_eq_true h2
      have r4 : K < N := by omega
      have r5 : decide (K < N) = true := decide_eq_true r4
      clear h1 h2
      go_wp2_with (go_at_call 7; refine (HLV.out _).mono ?_; rintro e w6 ⟨rfl, hb6⟩)
      go_ret
      exact ⟨rfl, HB5.out.trans (hb6.mono HB5.out.size)⟩
  · have g0 : decide ((n : Int) > 1000) = true := decide_eq_true (by omega)
    go_enter Try.func5, Try.ntmps5
    go_wp2_with (go_at_call 7; rw [← HW0.out]; refine (HLV.out _).mono ?_; rintro e w5 ⟨rfl, hb5⟩)
    go_ret
    exact ⟨rfl, HB0.out.trans (hb5.mono HB0.out.size)⟩
end Go.Proofs.Ytalbiieagcandaa
