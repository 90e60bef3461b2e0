/- Several texts in one: FxI. What each proves, and its conditions, stands at its own head. -/
import Derived.Test.YtmajhjkibmbikaaPkK23
import Derived.Test.YtmajhjkibmbikaaPkK24
import Derived.Test.YtmajhjkibmbikaaPkK26
import Derived.Test.YtmajhjkibmbikaaPkK15
import Derived.Test.YtmajhjkibmbikaaPkK9
import Derived.Test.YtmajhjkibmbikaaPkK18
import Derived.StillTailTactics
import Derived.OrdersHeld
import Derived.WalkMore
/- The program's layer 16: the first message, and each that one of those ahead of it names. Conditions: those that each theorem names. -/
namespace Go.Proofs.Ytmajhjkibmbikaa
open Go.RowKit Go.Shelf
set_option linter.unusedVariables false
set_option maxRecDepth 100000
attribute [local go_sem] Oper.semAt_some

/-- What stands while messages are told. -/
structure KinW (w : World) (lb bm : Nat) (A : Option Addr) (n cap : Nat) (A2 : Option Addr) (n2 cap2 : Nat) (l : List Ms) (Q : MsPl) (P : Nat → Prop) (ix : List Nat) (f : List UInt8 → Option Int) (W : World) : Prop where
  k_bel : Below w.heap.size w W
  k_s : W.heap[w.heap.size]? = some (.cells #[.slice A n cap, .slice A2 n2 cap2] 25 (0, 0))
  k_l : W.heap[lb]? = some (.cells #[.map (some bm)] 74 (0, 0))
  k_m : MapAt W bm n2 f
  k_t : ∃ v, W.heap[w.heap.size + 2]? = some (.cells #[v] 23 (0, 0)) ∧ W.ownsRow w.heap.size 32 3 v ix.length (ix.flatMap (msM l Q)) ∧ ∀ g, v.ownBlock = some g → ¬ P g
section
variable {w W W' : World} {lb bm n cap n2 cap2 : Nat} {A A2 : Option Addr} {l : List Ms} {Q : MsPl} {P P' : Nat → Prop} {ix : List Nat} {f : List UInt8 → Option Int}
theorem KinW.kept (h : KinW w lb bm A n cap A2 n2 cap2 l Q P ix f W) {j : Nat} (hg : W.grownBy W' (some j)) (hP : P j) (h1 : w.heap.size + 2 < j) (h2 : j ≠ lb) (h3 : j ≠ bm) : KinW w lb bm A n cap A2 n2 cap2 l Q P ix f W' := by
  obtain ⟨a1, a2, a3, a4, v, a5, a6, a7⟩ := h
  exact ⟨a1.grown hg a1.size (fun i hi => by cases hi; omega), (hg.block _ (lt_of_block a2) (fun e => by have := Option.some.inj e; omega)).trans a2, (hg.block _ (lt_of_block a3) (fun e => h2 (Option.some.inj e).symm)).trans a3,
    a4.kept hg (fun e => h3 (Option.some.inj e).symm), v, (hg.block _ (lt_of_block a5) (fun e => by have := Option.some.inj e; omega)).trans a5, own_block a6 (fun g hv => hg.block g (a6.lt g hv).2 (fun e => a7 g hv (by rw [Option.some.inj e]; exact hP))), a7⟩
theorem KinW.bel (h : KinW w lb bm A n cap A2 n2 cap2 l Q P ix f W) (hb : Below W.heap.size W W') : KinW w lb bm A n cap A2 n2 cap2 l Q P ix f W' := by
  obtain ⟨a1, a2, a3, a4, v, a5, a6, a7⟩ := h
  exact ⟨a1.trans (hb.mono a1.size), (hb.block _ (lt_of_block a2)).trans a2, (hb.block _ (lt_of_block a3)).trans a3, a4.bel hb, v, (hb.block _ (lt_of_block a5)).trans a5, own_below a6 hb, a7⟩
theorem KinW.with_P (h : KinW w lb bm A n cap A2 n2 cap2 l Q P ix f W) (hP : ∀ g, g < W.heap.size → ¬ P g → ¬ P' g) : KinW w lb bm A n cap A2 n2 cap2 l Q P' ix f W := by
  obtain ⟨a1, a2, a3, a4, v, a5, a6, a7⟩ := h
  exact ⟨a1, a2, a3, a4, v, a5, a6, fun g hv => hP g (a6.lt g hv).2 (a7 g hv)⟩
theorem KinW.less_P (h : KinW w lb bm A n cap A2 n2 cap2 l Q P ix f W) (hP : ∀ g, P' g → P g) : KinW w lb bm A n cap A2 n2 cap2 l Q P' ix f W := by
  obtain ⟨a1, a2, a3, a4, v, a5, a6, a7⟩ := h
  exact ⟨a1, a2, a3, a4, v, a5, a6, fun g hv hp => a7 g hv (hP g hp)⟩
end
theorem name_small {s : Sc} (h : smallT s = true) {m : Ms} (hm : m ∈ s.msgs) : m.name.length ≤ 100000 := by
  have hw : weigh s < 200 := by
    unfold smallT at h
    rw [Bool.and_eq_true] at h
    exact of_decide_eq_true h.1
  unfold weigh at hw
  have := sum_mem (f := weighM) hm
  unfold weighM at this hw
  omega
theorem leftF_first (s : Sc) (r t : List UInt8) : (if t = r then none else if t ∈ s.msgs.map Ms.name then some (placeT (s.msgs.map Ms.name) t) else none) = leftF s [r] t := by
  rw [show [r] = [] ++ [r] from rfl, leftF_snoc]
  unfold leftF messageT mNames
  simp

/-- At place k of what message i names; mb .. mb + 3: the blocks of this round. -/
def InnI (w : World) (lb bm : Nat) (A : Option Addr) (n cap : Nat) (A2 : Option Addr) (n2 cap2 : Nat) (s : Sc) (Q : MsPl) (D mb : Nat) (W2 : World) (mc : List Value) (i : Nat) (ix : List Nat) (rs : List (List UInt8)) (k : Nat) (W : World) : Prop :=
  ∃ ix', KinW w lb bm A n cap A2 n2 cap2 s.msgs Q (fun g => (g = D ∨ g = D + 1 ∨ g = bm) ∨ (mb ≤ g ∧ g ≤ mb + 3)) ix' (leftF s (namesOf s.msgs ix')) W ∧ GoodIx s ix' ∧ namesOf s.msgs ix' = (rs.take k).foldl (kinRef s) (namesOf s.msgs ix) ∧ i + 1 ≤ ix'.length ∧
    W.heap[mb + 1]? = some (.cells mc.toArray 32 (0, 0)) ∧ W.heap[mb + 2]? = some (.cells #[.slice (some ⟨mb + 1, 0, none⟩) 1 1] 23 (0, 0)) ∧ keep2 D W2 W
def InnX (w : World) (lb bm : Nat) (A : Option Addr) (n cap : Nat) (A2 : Option Addr) (n2 cap2 : Nat) (s : Sc) (Q : MsPl) (D mb : Nat) (W2 : World) (W : World) : Prop :=
  ∃ ix f, KinW w lb bm A n cap A2 n2 cap2 s.msgs Q (fun g => (g = D ∨ g = D + 1 ∨ g = bm) ∨ (mb ≤ g ∧ g ≤ mb + 3)) ix f W ∧ GoodIx s ix ∧ namesOf s.msgs ix = kinT s ∧ keep2 D W2 W
section
variable {w W2 W W' : World} {lb bm n cap n2 cap2 D mb i k : Nat} {A A2 : Option Addr} {s : Sc} {Q : MsPl} {mc : List Value} {ix : List Nat} {rs : List (List UInt8)}
theorem InnI.kept (h : InnI w lb bm A n cap A2 n2 cap2 s Q D mb W2 mc i ix rs k W) (hg : W.grownBy W' (some (mb + 3))) (h1 : w.heap.size + 2 < mb + 3) (h2 : mb + 3 ≠ lb) (h3 : mb + 3 ≠ bm) (h4 : D + 1 < mb) (h5 : D + 1 < W2.heap.size) : InnI w lb bm A n cap A2 n2 cap2 s Q D mb W2 mc i ix rs k W' := by
  obtain ⟨ix', a1, a2, a3, a4, a5, a6, a7, a8, a9⟩ := h
  exact ⟨ix', a1.kept hg (.inr ⟨by omega, Nat.le_refl _⟩) h1 h2 h3, a2, a3, a4, (hg.block _ (lt_of_block a5) (fun e => by have := Option.some.inj e; omega)).trans a5, (hg.block _ (lt_of_block a6) (fun e => by have := Option.some.inj e; omega)).trans a6,
    (hg.block _ (by omega) (fun e => by have := Option.some.inj e; omega)).trans a7, (hg.block _ (by omega) (fun e => by have := Option.some.inj e; omega)).trans a8, Nat.le_trans a9 hg.size⟩
theorem InnI.bel (h : InnI w lb bm A n cap A2 n2 cap2 s Q D mb W2 mc i ix rs k W) (hb : Below W.heap.size W W') (h5 : D + 1 < W2.heap.size) : InnI w lb bm A n cap A2 n2 cap2 s Q D mb W2 mc i ix rs k W' := by
  obtain ⟨ix', a1, a2, a3, a4, a5, a6, a7, a8, a9⟩ := h
  exact ⟨ix', a1.bel hb, a2, a3, a4, (hb.block _ (lt_of_block a5)).trans a5, (hb.block _ (lt_of_block a6)).trans a6, (hb.block _ (by omega)).trans a7, (hb.block _ (by omega)).trans a8, Nat.le_trans a9 hb.size⟩
theorem InnX.kept (h : InnX w lb bm A n cap A2 n2 cap2 s Q D mb W2 W) (hg : W.grownBy W' (some (mb + 3))) (h1 : w.heap.size + 2 < mb + 3) (h2 : mb + 3 ≠ lb) (h3 : mb + 3 ≠ bm) (h4 : D + 1 < mb) (h5 : D + 1 < W2.heap.size) : InnX w lb bm A n cap A2 n2 cap2 s Q D mb W2 W' := by
  obtain ⟨ix', f, a1, a2, a3, a7, a8, a9⟩ := h
  exact ⟨ix', f, a1.kept hg (.inr ⟨by omega, Nat.le_refl _⟩) h1 h2 h3, a2, a3, (hg.block _ (by omega) (fun e => by have := Option.some.inj e; omega)).trans a7, (hg.block _ (by omega) (fun e => by have := Option.some.inj e; omega)).trans a8, Nat.le_trans a9 hg.size⟩
end
theorem info_msr : (Try.prog.info? 32).map (fun i => (i.zero, i.size, i.bytes)) = some (some (.agg #[.string ⟨#[]⟩, .slice none 0 0, .slice none 0 0]), 3, 64) := by kernel_rfl
theorem wpIn_region_heldR {l' k id : Nat} {P : Program} {Q : Exit → Act → World → Prop} {a : Act} {w : World} {l : List Oper} (S : World → Prop) (hm : P.follows .mixedOrders = true) (hnd : noDefer l = true) (hq : ¬ LetsOut Q)
    (h : wpAnyH P .any l.toArray Q S l.toArray.size (Array.replicate l.toArray.size false) a w.drew) : (Code.region id l.toArray true).wpIn (Fence.wide.inRound l') k P Q a w :=
  wpIn_region_any hm (wpAnyIn_of_wpAny (noDefer_spec hnd) hq _ _ _ _ (wpAny_of_held _ _ _ _ h))
section
variable {w W W' X4 X5 : World} {lb bm n cap n2 cap2 : Nat} {A A2 : Option Addr} {l : List Ms} {Q : MsPl} {P : Nat → Prop} {ix : List Nat} {f f' : List UInt8 → Option Int}
/-- The map turned. -/
theorem KinW.mapped (h : KinW w lb bm A n cap A2 n2 cap2 l Q P ix f W) (hg : W.grownBy W' (some bm)) (hm : MapAt W' bm n2 f') (hP : P bm) (h1 : w.heap.size + 2 < bm) (h2 : bm ≠ lb) : KinW w lb bm A n cap A2 n2 cap2 l Q P ix f' W' := by
  obtain ⟨a1, a2, a3, a4, v, a5, a6, a7⟩ := h
  exact ⟨a1.grown hg a1.size (fun i hi => by cases hi; omega), (hg.block _ (lt_of_block a2) (fun e => by have := Option.some.inj e; omega)).trans a2, (hg.block _ (lt_of_block a3) (fun e => h2 (Option.some.inj e).symm)).trans a3,
    hm, v, (hg.block _ (lt_of_block a5) (fun e => by have := Option.some.inj e; omega)).trans a5, own_block a6 (fun g hv => hg.block g (a6.lt g hv).2 (fun e => a7 g hv (by rw [Option.some.inj e]; exact hP))), a7⟩
/-- One message more. -/
theorem KinW.more (h : KinW w lb bm A n cap A2 n2 cap2 l Q P ix f W) (hb : Below W.heap.size W X4) {v v' : Value} {p : Nat} (hv : W.heap[w.heap.size + 2]? = some (.cells #[v] 23 (0, 0))) (hr : ∀ g, v.ownBlock = some g → w.heap.size ≤ g ∧ ¬ P g) (hg : X4.grownBy X5 v.ownBlock) (ho : X5.ownsRow w.heap.size 32 3 v' (ix.length + 1) (ix.flatMap (msM l Q) ++ msM l Q p))
    (hl : v'.ownBlock = v.ownBlock ∨ v'.ownBlock = some X4.heap.size) (hs : ∀ g, v.ownBlock = some g → g ≠ w.heap.size ∧ g ≠ lb ∧ g ≠ bm ∧ g ≠ w.heap.size + 2) (hP : ∀ g, P g → g < W.heap.size) (h1 : w.heap.size + 2 < bm) (h2 : w.heap.size + 2 < lb) :
    KinW w lb bm A n cap A2 n2 cap2 l Q P (ix ++ [p]) f (X5.setCell ⟨w.heap.size + 2, 0, none⟩ v') ∧ ∀ j, j < W.heap.size → P j → j ≠ w.heap.size + 2 → (X5.setCell ⟨w.heap.size + 2, 0, none⟩ v').heap[j]? = W.heap[j]? := by
  obtain ⟨a1, a2, a3, a4, v0, a5, a6, a7⟩ := h
  have htb : X5.heap[w.heap.size + 2]? = some (.cells #[v] 23 (0, 0)) := (hg.block _ (Nat.lt_of_lt_of_le (lt_of_block hv) hb.size) (fun e => (hs _ e.symm).2.2.2 rfl)).trans ((hb.block _ (lt_of_block hv)).trans hv)
  have hne : v'.ownBlock ≠ some (w.heap.size + 2) := own_other ho htb (by decide)
  have other : ∀ j, j < W.heap.size → v.ownBlock ≠ some j → j ≠ w.heap.size + 2 → (X5.setCell ⟨w.heap.size + 2, 0, none⟩ v').heap[j]? = W.heap[j]? := fun j hj h1 h2 =>
    (Below.heap_setCell _ _ _ _ h2).trans ((hg.block j (Nat.lt_of_lt_of_le hj hb.size) (fun e => h1 e.symm)).trans (hb.block j hj))
  have hX5 : W.heap.size ≤ X5.heap.size := Nat.le_trans hb.size hg.size
  refine ⟨⟨?_, (other _ (lt_of_block a2) (fun e => (hs _ e).1 rfl) (by omega)).trans a2, (other _ (lt_of_block a3) (fun e => (hs _ e).2.1 rfl) (by omega)).trans a3, ?_, v', ?_, ?_, ?_⟩, fun j hj hp hj2 => other j hj (fun e => (hr j e).2 hp) hj2⟩
  · exact ((a1.trans (hb.mono a1.size)).grown hg (Nat.le_trans a1.size hb.size) (fun k hk => (hr k hk).1)).setCell (by show w.heap.size ≤ w.heap.size + 2; omega) v'
  · obtain ⟨D, d1, d2⟩ := (a4.bel hb).kept hg (fun e => (hs _ e.symm).2.2.1 rfl)
    exact ⟨D, d1.setCell (by show bm ≠ w.heap.size + 2; omega) _, d2⟩
  · exact obj_set htb 0 v'
  · have hfl : (ix ++ [p]).flatMap (msM l Q) = ix.flatMap (msM l Q) ++ msM l Q p := by rw [List.flatMap_append]; simp
    rw [hfl, List.length_append]
    exact own_block ho (fun k hk => Below.heap_setCell _ _ _ _ (fun e => hne (by rw [hk]; exact congrArg some e)))
  · intro g hv' hp
    rcases hl with e | e
    · exact (hr g (e ▸ hv')).2 hp
    · rw [e] at hv'
      have := hP g hp
      have := Option.some.inj hv'
      have := hb.size
      omega
end
theorem refsL_one (m : Ms) : refsL [m] = refsF m.fields := by unfold refsL; simp
theorem undrawn {w w2 : World} {row : Option Nat} (h : w.drew.grownBy w2 row) : w.grownBy w2 row := ⟨h.os, h.tape, h.output, h.size, h.block⟩
/-- At place st.1 of the list st.2; D, D + 1: the outer loop's records. -/
def OutI (w : World) (lb bm : Nat) (A : Option Addr) (n cap : Nat) (A2 : Option Addr) (n2 cap2 : Nat) (s : Sc) (Q : MsPl) (D : Nat) (st : Nat × List Nat) (W : World) : Prop :=
  KinW w lb bm A n cap A2 n2 cap2 s.msgs Q (fun g => g = D ∨ g = D + 1 ∨ g = bm) st.2 (leftF s (namesOf s.msgs st.2)) W ∧ GoodIx s st.2 ∧ st.1 ≤ st.2.length ∧ kinGo s (s.msgs.length + 1 - st.1) (namesOf s.msgs st.2) st.1 = kinT s
def OutX (w : World) (lb bm : Nat) (A : Option Addr) (n cap : Nat) (A2 : Option Addr) (n2 cap2 : Nat) (s : Sc) (Q : MsPl) (D : Nat) (W : World) : Prop :=
  ∃ ix f, KinW w lb bm A n cap A2 n2 cap2 s.msgs Q (fun g => g = D ∨ g = D + 1 ∨ g = bm) ix f W ∧ GoodIx s ix ∧ namesOf s.msgs ix = kinT s

theorem wp_region_tail {P : Program} {id : Nat} {Q : Exit → Act → World → Prop} {a : Act} {w : World} {l : List Oper} (n : Nat) (hm : P.follows .mixedOrders = true) (hB : Region.lexTailB .any l.toArray n = true)
    (h : wpStill P l.toArray w.drew (fun a' => wpList P l.toArray Q (l.drop n) a' w.drew) (l.take n) a) : (Code.region id l.toArray true).wp P Q a w := wp_region_still_tail n hm hB h

set_option maxHeartbeats 16000000 in
theorem reached_some {S : Nat → Nat → Prop} (w : World) {A A2 : Option Addr} {n cap n2 cap2 : Nat} {s : Sc} {Q : MsPl} (h : ScAt S w A n cap A2 n2 cap2 s) (hS : ∀ k g, S k g → g < w.heap.size) (hok : ScOk s) (hsm : smallT s = true) (hQ : MsQ S w A2 s.msgs Q) (hne : 0 < n2) :
    Calls Try.prog 52 #[.agg #[.slice A n cap, .slice A2 n2 cap2]] w fun e w' => ∃ v ix, e = .returned v ∧ w'.ownsRow w.heap.size 32 3 v ix.length (ix.flatMap (msM s.msgs Q)) ∧ GoodIx s ix ∧ namesOf s.msgs ix = kinT s ∧ Below w.heap.size w w' := by
  obtain ⟨m1, m2, m3, m4⟩ := scAt_max h
  have hn2 := h.s_nm
  have h200 : n2 ≤ 200 := by rw [hn2]; exact (small_sizes hsm).2.1
  obtain ⟨x0, hx0⟩ : ∃ x, s.msgs[0]? = some x := ⟨_, List.getElem?_eq_getElem (by omega)⟩
  obtain ⟨ge, oe, rfl, hc0⟩ := hQ.q_at 0 x0 hx0
  have hrow : msM s.msgs Q 0 = [.string (strOf x0.name), .slice (Q 0).1 x0.fields.length (Q 0).2.1, .slice (Q 0).2.2.1 x0.barred.length (Q 0).2.2.2] := msM_some hx0
  obtain ⟨c0, c1, c2⟩ := hc0 (w.alloc (.cells #[.slice A n cap, .slice (some ⟨ge, oe, none⟩) n2 cap2] 25)) (KeepS.of_below ((Below.refl _ w).alloc (Nat.le_refl _) _))
  simp only [Nat.zero_mul, Nat.add_zero] at c0 c1 c2
  obtain ⟨w3, hw3⟩ : ∃ w3, w3 = ((w.alloc (.cells #[.slice A n cap, .slice (some ⟨ge, oe, none⟩) n2 cap2] 25)).alloc (.cells #[.string (strOf x0.name), .slice (Q 0).1 x0.fields.length (Q 0).2.1, .slice (Q 0).2.2.1 x0.barred.length (Q 0).2.2.2] 32)).alloc (.cells #[.slice (some ⟨w.heap.size + 1, 0, none⟩) 1 1] 23) := ⟨_, rfl⟩
  obtain ⟨k1, k2, k3, hb3, hs3⟩ := allocs3 _ _ _ _ _ hw3
  rw [heap_alloc_new] at k1 k2 k3
  have HFI := Lib.hid (firsts_any w3 (scAt_bel h hb3).s_m hn2 h200 (fun m hm => name_small hsm hm))
  have r1 := obj_cell (bx_start w #[.slice A n cap, .slice (some ⟨ge, oe, none⟩) n2 cap2] 25).b_blk 1
  have r2 := obj_cell k1 1
  rw [hw3] at r2
  have HX0 := Lib.hid hx0
  have HROW := Lib.hid hrow
  have K1 := Lib.hid k1
  have K2 := Lib.hid k2
  have K3 := Lib.hid k3
  have HB3 := Lib.hid hb3
  have HS3 := Lib.hid hs3
  have HW3 := Lib.hid hw3
  have HSM := Lib.hid hsm
  have HQQ := Lib.hid hQ
  have HN2 := Lib.hid hn2
  have HSS := Lib.hid hS
  have HOK := Lib.hid hok
  have HH := Lib.hid h
  have HN0 : Hid (x0.name.length ≤ 100000) := Lib.hid (name_small hsm (List.mem_of_getElem? hx0))
  have g0 : ((n2 : Int) == 0) = false := beq_false_of_ne (by omega)
  have g1 : decide ((n2 : Int) = 0) = false := decide_eq_false (by omega)
  obtain ⟨sn, hsn⟩ : ∃ sn, sn = strOf x0.name := ⟨_, rfl⟩
  have HSN := Lib.hid hsn
  rw [← hsn] at c0 r2 HW3 K2 HROW
  generalize (Q 0).1 = B1 at *
  generalize (Q 0).2.1 = d1 at *
  generalize (Q 0).2.2.1 = B2 at *
  generalize (Q 0).2.2.2 = d2 at *
  generalize x0.fields.length = nf0 at *
  generalize x0.barred.length = nb0 at *
  clear h hS hok hsm hQ hn2 hx0 hc0 hrow hw3 k1 k2 k3 hb3 hs3 hsn
  refine callsIn_wide.1 (callsIn_of_wp_marks (n := 9) Try.func52 rfl trivial ?_ rfl)
  simp only [Try.ntmps52, List.size_toArray, List.length_cons, List.length_nil, Nat.reduceAdd, Nat.reduceSub, Array.replicate_succ, Array.replicate_zero, List.push_toArray, List.append_toArray, List.nil_append, List.cons_append]
  refine wpIn_wide.2 ?_
  go_wp2
  go_step3
  go_wp2_with (go_at_call 61; (with_reducible rw [← HW3.out]); refine HFI.out.mono ?_; rintro e w4 ⟨rfl, hm4, hb4⟩; have HM4 := Lib.hid hm4; have HB4 := Lib.hid hb4; clear hm4 hb4)
  obtain ⟨w5, hw5⟩ : ∃ w5, w5 = w4.alloc (.cells #[.map (some w3.heap.size)] 74) := ⟨_, rfl⟩
  rw [← hw5]
  have hb45 : Below w4.heap.size w4 w5 := by rw [hw5]; exact (Below.refl _ _).alloc (Nat.le_refl _) _
  have hb35 : Below w3.heap.size w3 w5 := HB4.out.trans (hb45.mono HB4.out.size)
  have hl5 : w5.heap[w4.heap.size]? = some (.cells #[.map (some w3.heap.size)] 74 (0, 0)) := by rw [hw5]; exact heap_alloc_new _ _
  have hs5 : w5.heap[w.heap.size]? = _ := (hb35.block _ (lt_of_block K1.out)).trans K1.out
  have hr5 : w5.heap[w.heap.size + 1]? = _ := (hb35.block _ (lt_of_block K2.out)).trans K2.out
  have ht5 : w5.heap[w.heap.size + 2]? = _ := (hb35.block _ (lt_of_block K3.out)).trans K3.out
  obtain ⟨D5, ho5, hd5⟩ := HM4.out.bel hb45
  have b0 : w5.drew.cell? ⟨w4.heap.size, 0, none⟩ = _ := obj_cell hl5 0
  have b1 : w5.drew.cell? ⟨w.heap.size + 1 + 1, 0, none⟩ = _ := obj_cell ht5 0
  have b2 : w5.drew.cell? ⟨w.heap.size + 1, 0, none⟩ = _ := obj_cell hr5 0
  have HL5 := Lib.hid hl5
  have HS5 := Lib.hid hs5
  have HR5 := Lib.hid hr5
  have HT5 := Lib.hid ht5
  have HO5 := Lib.hid ho5
  have HD5 := Lib.hid hd5
  have HW5S : Hid (w5.heap.size = w4.heap.size + 1) := Lib.hid (by rw [hw5, World.size_alloc])
  have HB05 := Lib.hid (HB3.out.trans (hb35.mono HB3.out.size))
  have HW43 := Lib.hid HB4.out.size
  have HKEY := Lib.hid (str_key (t := x0.name) (by have := HN0.out; omega))
  rw [← HSN.out] at HKEY
  clear hb45 hb35 hl5 hs5 hr5 ht5 ho5 hd5 hw5 r2
  refine wp_region_tail 5 (by kernel_rfl) (by kernel_rfl) ?_
  simp only [List.take_succ_cons, List.take_zero, List.drop_succ_cons, List.drop_zero]
  iterate 5 still_step
  refine wpStill_nil ?_
  refine wpList_delete_own _ rfl _ _ 74 9 rfl 3 str_keyed Try.underlying74 _ w3.heap.size n2 D5 rfl HO5.out _ _ rfl HKEY.out ?_
  intro w6 hown6 hturn6
  have HOW6 := Lib.hid hown6
  have HTU6 := Lib.hid hturn6.grown
  clear hown6 hturn6 b0 b1 b2
  go_wp2
  go_step3
  go_wp2
  have HGT6 : Hid (w4.heap.size < w6.heap.size ∧ w3.heap.size < w4.heap.size) := Lib.hid ⟨by have := HTU6.out.size; have : w5.drew.heap.size = w5.heap.size := rfl; have := HW5S.out; omega, by have := HM4.out.lt; exact this⟩
  have hI0 : OutI w w4.heap.size w3.heap.size A n cap (some ⟨ge, oe, none⟩) n2 cap2 s Q w6.heap.size (0, [0]) w6 := by
    have hg := undrawn HTU6.out
    have ls := HGT6.out
    have HS43 := HS3.out
    have hnm : namesOf s.msgs [0] = [x0.name] := by unfold namesOf; simp [HX0.out]
    refine ⟨⟨HB05.out.grown hg HB05.out.size (fun i hi => by cases hi; omega), (hg.block _ (lt_of_block HS5.out) (fun e => by have := Option.some.inj e; omega)).trans HS5.out, (hg.block _ (lt_of_block HL5.out) (fun e => by have := Option.some.inj e; omega)).trans HL5.out, ?_, _, (hg.block _ (lt_of_block HT5.out) (fun e => by have := Option.some.inj e; omega)).trans HT5.out, ?_, ?_⟩, goodIx_zero HX0.out, Nat.zero_le _, ?_⟩
    · refine ⟨_, HOW6.out, mapIs_congr (mapIs_del HD5.out x0.name) (fun t => ?_)⟩
      show _ = leftF s (namesOf s.msgs [0]) t
      rw [hnm]
      exact leftF_first s x0.name t
    · have e : ([0] : List Nat).flatMap (msM s.msgs Q) = [.string sn, .slice B1 nf0 d1, .slice B2 nb0 d2] := by rw [← HROW.out]; simp
      show w6.ownsRow w.heap.size 32 3 (.slice (some ⟨w.heap.size + 1, 0, none⟩) 1 1) 1 (([0] : List Nat).flatMap (msM s.msgs Q))
      rw [e]
      exact ⟨rfl, .inr ⟨w.heap.size + 1, 1, _, rfl, by omega, (hg.block _ (lt_of_block HR5.out) (fun e => by have := Option.some.inj e; omega)).trans HR5.out, Nat.le_refl _, by decide, rfl, rfl⟩⟩
    · intro g hv hp
      obtain rfl : w.heap.size + 1 = g := by simpa [Value.ownBlock] using hv
      omega
    · show kinGo s (s.msgs.length + 1 - 0) (namesOf s.msgs [0]) 0 = kinT s
      rw [hnm, kinT_some HX0.out, Nat.sub_zero]
  have HI0 := Lib.hid hI0
  clear hI0
  refine wpIn_wide.1 (wpIn_rangeS (n := 9) (gf := 62) (lb := #[.pointer (some ⟨w.heap.size + 1 + 1, 0, none⟩)]) rfl (enters_of Try.func62 (by kernel_rfl) rfl)
    (grow_seq w.heap.size (w.heap.size + 1 + 1) n2 s.msgs Q (by omega)) ?hps 0 (OutI w w4.heap.size w3.heap.size A n cap (some ⟨ge, oe, none⟩) n2 cap2 s Q w6.heap.size) (OutX w w4.heap.size w3.heap.size A n cap (some ⟨ge, oe, none⟩) n2 cap2 s Q w6.heap.size)
    ?hI ?hX ?hB ?hR HI0.out ?hround ?hdone ?hstop)
  case hps =>
    rintro ⟨i, ix⟩ v hv
    unfold grVals at hv
    dsimp only at hv
    cases hr : ix[i]? with
    | none => rw [hr] at hv; cases hv
    | some a => rw [hr] at hv; cases hv; rfl
  case hI =>
    rintro st W W' ⟨h1, h2⟩ hg
    have ls := HGT6.out
    have HS43 := HS3.out
    exact ⟨h1.kept hg (.inr (.inl rfl)) (by omega) (by omega) (by omega), h2⟩
  case hX =>
    rintro W W' ⟨ix, f, h1, h2⟩ hg
    have ls := HGT6.out
    have HS43 := HS3.out
    exact ⟨ix, f, h1.kept hg (.inr (.inl rfl)) (by omega) (by omega) (by omega), h2⟩
  case hB =>
    rintro st W W' ⟨h1, h2⟩ hb
    exact ⟨h1.bel hb, h2⟩
  case hR =>
    rintro st W ⟨h1, h2, h3, h4⟩
    obtain ⟨v, a5, a6, a7⟩ := h1.k_t
    exact ⟨by have := goodIx_len h2; have := HN2.out; omega, h3, v, a5, a6⟩
  case hround =>
    rintro ⟨i, ix⟩ v W hv ⟨h1, h2, h3, h4⟩ hlt
    dsimp only at h1 h2 h3 h4
    obtain ⟨a, ha⟩ : ∃ a, ix[i]? = some a := by
      unfold grVals at hv
      dsimp only at hv
      cases hr : ix[i]? with
      | none => rw [hr] at hv; cases hv
      | some a => exact ⟨a, rfl⟩
    obtain ⟨m, hm, hmp⟩ := h2.1 a (List.mem_of_getElem? ha)
    have hv2 : v = #[.agg #[.string (strOf m.name), .slice (Q a).1 m.fields.length (Q a).2.1, .slice (Q a).2.2.1 m.barred.length (Q a).2.2.2]] := by
      unfold grVals at hv
      dsimp only at hv
      rw [ha] at hv
      cases hv
      show #[Value.agg (msM s.msgs Q a).toArray] = _
      rw [msM_some hm]
      rfl
    subst hv2
    have HKG := Lib.hid (kinGo_round h2 ha hm h4)
    have HKW := Lib.hid h1
    have HGI := Lib.hid h2
    have HIX : Hid (i < ix.length) := Lib.hid (List.getElem?_eq_some_iff.mp ha).1
    have HM := Lib.hid hm
    clear h1 h2 h3 h4 hv ha hmp hm
    gi_wp2
    refine ⟨⟨Below.heap_alloc _ _ _ (by omega), Below.heap_alloc _ _ _ (by omega), by simp⟩, ?_⟩
    intro W2 hg hL hsz
    obtain ⟨rr, hL⟩ := hL
    have HLR := Lib.hid hL
    have hk2 := ((HKW.out.with_P (P' := fun g => (g = w6.heap.size ∨ g = w6.heap.size + 1 ∨ g = w3.heap.size) ∨ (W.heap.size ≤ g ∧ g ≤ W.heap.size + 3)) (fun g hl hn hp => by rcases hp with hp | hp; exact hn hp; omega)).bel ((Below.refl _ W).alloc (Nat.le_refl _) (.cells #[.string (strOf m.name), .slice (Q a).1 m.fields.length (Q a).2.1, .slice (Q a).2.2.1 m.barred.length (Q a).2.2.2] 32))).kept hg (.inl (.inr (.inl rfl))) (by have := HGT6.out; have := HS3.out; omega) (by have := HGT6.out; omega) (by have := HGT6.out; omega)
    have hmb : W2.heap[W.heap.size]? = _ := (hg.block W.heap.size (by simp) (fun hh => by have := Option.some.inj hh; omega)).trans (heap_alloc_new W _)
    rw [World.size_alloc] at hsz
    have HK2 := Lib.hid hk2
    have HMB := Lib.hid hmb
    have HSZ := Lib.hid hsz
    have HLT := Lib.hid hlt
    have c0 := obj_cell hmb 0
    have c1 := obj_cell hmb 1
    have c2 := obj_cell hmb 2
    clear hk2 hmb hsz hg hL hlt
    gi_wp2_with (refine ⟨trivial, ?_⟩; gi_at_call 31; refine ((callsIn_wide.2 (refs_any _ _ _ _)).inRound _).mono ?_; rintro e w8 ⟨rfl, hw8⟩; have HW8 := Lib.hid hw8; clear hw8)
    have hmbD : w6.heap.size + 1 < W.heap.size := HLT.out
    have hs2 := HSZ.out
    obtain ⟨W3, hW3⟩ : ∃ W3, W3 = W2.alloc (.cells #[.string (strOf m.name), .slice (Q a).1 m.fields.length (Q a).2.1, .slice (Q a).2.2.1 m.barred.length (Q a).2.2.2] 32) := ⟨_, rfl⟩
    have hw8 := HW8.out
    rw [← hW3] at hw8
    have hb23 : Below W2.heap.size W2 W3 := by rw [hW3]; exact (Below.refl _ _).alloc (Nat.le_refl _) _
    have hs3 : W3.heap.size = W2.heap.size + 1 := by rw [hW3, World.size_alloc]
    have hb38 : Below W3.heap.size W3 w8 := by rw [hw8]; exact (Below.refl _ _).alloc (Nat.le_refl _) _
    have hb28 : Below W2.heap.size W2 w8 := hb23.trans (hb38.mono hb23.size)
    have hs8 : w8.heap.size = W.heap.size + 3 := by rw [hw8, World.size_alloc, hs3, hs2]
    have hblk : w8.heap[W.heap.size + 1]? = some (.cells (msC m (Q a)).toArray 32 (0, 0)) := by
      rw [← hs2]
      refine (hb38.block _ (by omega)).trans ?_
      rw [hW3]
      exact heap_alloc_new _ _
    have hrb : w8.heap[W.heap.size + 2]? = some (.cells #[.slice (some ⟨W.heap.size + 1, 0, none⟩) 1 1] 23 (0, 0)) := by
      rw [show W.heap.size + 2 = W3.heap.size by omega, hw8, hs2]
      exact heap_alloc_new _ _
    have hK8 := HK2.out.bel hb28
    have hkeep : ∀ k (p : Addr) v, S k p.block → w.cell? p = some v → w8.cell? p = some v := fun k p v hs hc => (hK8.k_bel.cell (World.block_lt_of_cell? w _ hc)).trans hc
    have hone : Lst 3 (fun g => S 4 g ∨ (4 = 4 ∧ g = W.heap.size + 1)) (msR (fun k g => S k g ∨ (k = 4 ∧ g = W.heap.size + 1))) w8 (some ⟨W.heap.size + 1, 0, none⟩) 1 [m] :=
      lst_block (l := [m]) (f := fun x => msC x (Q a)) hblk (by simp) (fun _ => rfl) (fun x hx => by
        obtain rfl := List.mem_singleton.mp hx
        exact ⟨_, _, _, _, rfl, lst_keep (HQQ.out.q_f a x HM.out) fdR_keep (fun g hg => .inl hg) (fun p hp hlt => hK8.k_bel.cell hlt), lst_keep (HQQ.out.q_b a x HM.out) inR_keep (fun g hg => .inl hg) (fun p hp hlt => hK8.k_bel.cell hlt)⟩) (.inr ⟨rfl, rfl⟩) (show 1 ≤ maxLen by decide)
    have HSQ2 := Lib.hid (refs_seq (S := fun k g => S k g ∨ (k = 4 ∧ g = W.heap.size + 1)) w8 (W.heap.size + 2) hone rfl)
    rw [refsL_one] at HSQ2
    have hl8 : w8.heap[w6.heap.size + 1]? = some (.loop rr) := (hb28.block _ (by omega)).trans HLR.out
    have hD2 : w6.heap.size + 1 < W2.heap.size := by omega
    have hin0 : InnI w w4.heap.size w3.heap.size A n cap (some ⟨ge, oe, none⟩) n2 cap2 s Q w6.heap.size W.heap.size W2 (msC m (Q a)) i ix (refsF m.fields) 0 w8 :=
      ⟨ix, hK8, HGI.out, rfl, HIX.out, hblk, hrb, hb28.block _ (by omega), hb28.block _ (by omega), hb28.size⟩
    have HIN0 := Lib.hid hin0
    have HBLK := Lib.hid hblk
    have HRB := Lib.hid hrb
    have HK8 := Lib.hid hK8
    have HL8 := Lib.hid hl8
    have HS8 := Lib.hid hs8
    have HD2 := Lib.hid hD2
    have hrs2 : W3.heap.size = W.heap.size + 2 := by omega
    obtain ⟨rs, hrs⟩ : ∃ rs, rs = refsF m.fields := ⟨_, rfl⟩
    have HRS := Lib.hid hrs
    rw [← hrs] at HSQ2 HIN0 HKG
    rw [hs2]
    have HS2 := Lib.hid hs2
    clear hmbD hs2 hW3 hw8 hb23 hs3 hb38 hb28 hs8 hblk hrb hK8 hkeep hone hl8 hD2 hin0 hrs hrs2 c0 c1 c2
    refine wpIn_rangeT (n := 7) (l0 := w6.heap.size + 1) (r0 := rr) (gf := 49) (lb := #[.pointer (some ⟨W.heap.size + 2, 0, none⟩)]) HL8.out rfl (enters_of Try.func49 (by kernel_rfl) rfl)
      HSQ2.out ?ihps 0 (InnI w w4.heap.size w3.heap.size A n cap (some ⟨ge, oe, none⟩) n2 cap2 s Q w6.heap.size W.heap.size W2 (msC m (Q a)) i ix rs) (InnX w w4.heap.size w3.heap.size A n cap (some ⟨ge, oe, none⟩) n2 cap2 s Q w6.heap.size W.heap.size W2)
      ?ihI ?ihX ?ihB ?ihR HIN0.out ?ihround ?ihdone ?ihstop
    case ihps =>
      intro k v hv
      unfold refVals at hv
      cases hr : rs[k]? with
      | none => rw [hr] at hv; cases hv
      | some r => rw [hr] at hv; cases hv; rfl
    case ihI =>
      rintro k X1 X2 h hg
      rw [HS8.out] at hg
      have ls := HGT6.out
      have ls2 := HLT.out
      have ls3 := HS3.out
      exact h.kept hg (by omega) (by omega) (by omega) (by omega) HD2.out
    case ihX =>
      rintro X1 X2 h hg
      rw [HS8.out] at hg
      have ls := HGT6.out
      have ls2 := HLT.out
      have ls3 := HS3.out
      exact h.kept hg (by omega) (by omega) (by omega) (by omega) HD2.out
    case ihB =>
      rintro k X1 X2 h hb
      exact h.bel hb HD2.out
    case ihR =>
      rintro k X1 ⟨ix', a1, a2, a3, a4, a5, a6, a7⟩
      refine ⟨fun j p v hs hc => ?_, a6⟩
      rcases hs with hs | ⟨rfl, hp⟩
      · have hl := HSS.out j _ hs
        exact (a1.k_bel.cell hl).trans ((HK8.out.k_bel.cell hl).symm.trans hc)
      · exact (World.cell?_of_block (a := p) (by rw [hp]; exact a5.trans HBLK.out.symm)).trans hc
    case ihround =>
      rintro k v X1 hv h1 hlt1
      rw [HS8.out] at hlt1 ⊢
      obtain ⟨r, hr⟩ : ∃ r, rs[k]? = some r := by
        unfold refVals at hv
        cases hr : rs[k]? with
        | none => rw [hr] at hv; cases hv
        | some r => exact ⟨r, rfl⟩
      have hv2 : v = #[.string (strOf r)] := by unfold refVals at hv; rw [hr] at hv; cases hv; rfl
      subst hv2
      have HSTEP := Lib.hid (foldl_take_snoc (f := kinRef s) (b := namesOf s.msgs ix) hr)
      have HX1 := Lib.hid h1
      have HL1 := Lib.hid hlt1
      have hrl : r.length ≤ 140737488351232 := by
        have hmem := List.mem_of_getElem? hr
        rw [HRS.out] at hmem
        obtain ⟨f, hf, rfl⟩ := List.mem_map.mp hmem
        exact ((HOK.out.2.2.2 m (List.mem_of_getElem? HM.out)).2.2.2.1 f (List.mem_filter.mp hf).1).2.2.2.1
      have HRK := Lib.hid (str_key (t := r) hrl)
      obtain ⟨sr, hsr⟩ : ∃ sr, sr = strOf r := ⟨_, rfl⟩
      rw [← hsr] at HRK ⊢
      clear hv hr h1 hlt1 hrl hsr
      gi_wp2
      refine ⟨⟨rfl, Nat.le_refl _⟩, ?_⟩
      intro X2 hg2 hL2 hs2
      have hX2 := HX1.out.kept hg2 (by have := HGT6.out; have := HLT.out; have := HS3.out; omega) (by have := HGT6.out; have := HLT.out; omega) (by have := HGT6.out; have := HLT.out; omega) (by have := HLT.out; omega) HD2.out
      obtain ⟨ix', a1, a2, a3, a4, a5, a6, a7⟩ := hX2
      obtain ⟨D, ho, hD⟩ := a1.k_m
      have c0 := obj_cell a1.k_l 0
      have HA1 := Lib.hid a1
      have HA2 := Lib.hid a2
      have HA3 := Lib.hid a3
      have HA4 := Lib.hid a4
      have HA5 := Lib.hid a5
      have HA6 := Lib.hid a6
      have HA7 := Lib.hid a7
      have HOW := Lib.hid ho
      have HMD := Lib.hid hD
      have HL2 : Hid (W.heap.size + 3 < X2.heap.size) := Lib.hid (by rw [hs2]; exact HL1.out)
      clear a1 a2 a3 a4 a5 a6 a7 ho hD hg2 hL2 hs2
      by_cases hz : Maps.size D = 0
      · gi_wp2_with (gi_at_len; refine wpListIn_len_own _ rfl _ 74 rfl 9 3 Try.underlying74 _ w3.heap.size n2 D rfl HOW.out ?_; rw [hz])
        exact ⟨⟨rfl, ix', _, HA1.out, HA2.out, kin_broken (fun t => mapIs_none HMD.out hz t) HA3.out HKG.out, HA7.out⟩, rfl, Nat.le_refl _⟩
      · obtain ⟨zz, hzz⟩ : ∃ zz, Maps.size D = zz := ⟨_, rfl⟩
        rw [hzz] at hz
        have e0 : ((zz : Int) == 0) = false := beq_false_of_ne (by omega)
        have HZZ := Lib.hid hzz
        clear hz hzz
        cases hf : leftF s (namesOf s.msgs ix') r with
        | none =>
          have HH0 : Hid (Maps.has D (.string r) = false) := Lib.hid (by rw [(HMD.out.2 r).1, hf]; rfl)
          have HNO := Lib.hid (kinRef_none hf)
          clear hf
          gi_wp2_with (first
            | (gi_at_len; refine wpListIn_len_own _ rfl _ 74 rfl 9 3 Try.underlying74 _ w3.heap.size n2 D rfl HOW.out ?_; rw [HZZ.out])
            | (gi_at_lookup; refine wpListIn_lookup_own_ok_int _ rfl _ _ 74 rfl 9 3 .i64 str_keyed Try.underlying74 Try.underlying3 (zero_int _) w3.heap.size n2 D rfl HOW.out _ _ rfl HRK.out ?_; intro c hat hwc; rw [HH0.out]; clear hat hwc))
          exact ⟨⟨k + 1, rfl, ix', HA1.out, HA2.out, by rw [HSTEP.out, ← HA3.out, HNO.out], HA4.out, HA5.out, HA6.out, HA7.out⟩, rfl, Nat.le_refl _⟩
        | some x =>
          obtain ⟨p, m', e5, hm', e6, hpl, hgi, hnm, hlf⟩ := goodIx_next HA2.out hf
          have HH0 : Hid (Maps.has D (.string r) = true) := Lib.hid (by rw [(HMD.out.2 r).1, hf]; rfl)
          have HAT : Hid (∀ z, D.atKey (.string r) z = .lit (.int .i64 (p : Int))) := Lib.hid (fun z => by rw [← e5]; exact (HMD.out.2 r).2 z x hf)
          have HM' := Lib.hid hm'
          have HGI' := Lib.hid hgi
          have HNM' := Lib.hid hnm
          have HLF' := Lib.hid hlf
          have HPL := Lib.hid hpl
          clear hf e5 hm' e6 hpl hgi hnm hlf
          gi_wp2_with (first
            | (gi_at_len; refine wpListIn_len_own _ rfl _ 74 rfl 9 3 Try.underlying74 _ w3.heap.size n2 D rfl HOW.out ?_; rw [HZZ.out])
            | (gi_at_lookup; refine wpListIn_lookup_own_ok_int _ rfl _ _ 74 rfl 9 3 .i64 str_keyed Try.underlying74 Try.underlying3 (zero_int _) w3.heap.size n2 D rfl HOW.out _ _ rfl HRK.out ?_; intro c hat hwc; rw [HH0.out]; obtain rfl : c = (p : Int) := (by rw [HAT.out] at hat; injection hat with hat; injection hat with _ hat; exact hat.symm); clear hat hwc)
            | (gi_at_delete; refine wpListIn_delete_own _ rfl _ _ 74 9 rfl 3 str_keyed Try.underlying74 _ w3.heap.size n2 D rfl HOW.out _ _ rfl HRK.out ?_; intro X3 hown3 hturn3; have HOW3 := Lib.hid hown3; have HTU3 := Lib.hid hturn3.grown; clear hown3 hturn3))
          have hbm := HGT6.out
          have hlt := HLT.out
          have hs3' := HS3.out
          have hk3 := HA1.out.mapped HTU3.out ⟨_, HOW3.out, mapIs_congr (mapIs_del HMD.out r) (fun t => (HLF'.out t).symm)⟩ (.inl (.inr (.inr rfl))) (by omega) (by omega)
          obtain ⟨v, t5, t6, t7⟩ := hk3.k_t
          obtain ⟨ga, oa, hga, hcl⟩ := HQQ.out.q_at p m' HM'.out
          obtain ⟨rfl, rfl⟩ : ge = ga ∧ oe = oa := by cases hga; exact ⟨rfl, rfl⟩
          obtain ⟨z0, z1, z2⟩ := hcl X3 (KeepS.of_below hk3.k_bel)
          have zs : X3.cell? ⟨w.heap.size, 1, none⟩ = some (.slice (some ⟨ge, oe, none⟩) n2 cap2) := obj_cell hk3.k_s 1
          have zt : X3.drew.cell? ⟨w.heap.size + 1 + 1, 0, none⟩ = some v := obj_cell t5 0
          have hpm : msM s.msgs Q p = msC m' (Q p) := msM_some HM'.out
          unfold msC at hpm
          have hpn : p < n2 := by rw [HN2.out]; exact HPL.out
          generalize hq1 : (Q p).1 = y1 at *
          generalize hq2 : (Q p).2.1 = y2 at *
          generalize hq3 : (Q p).2.2.1 = y3 at *
          generalize hq4 : (Q p).2.2.2 = y4 at *
          obtain ⟨sm', hsm'⟩ : ∃ sm', sm' = strOf m'.name := ⟨_, rfl⟩
          obtain ⟨nf', hnf'⟩ : ∃ nf', nf' = m'.fields.length := ⟨_, rfl⟩
          obtain ⟨nb', hnb'⟩ : ∃ nb', nb' = m'.barred.length := ⟨_, rfl⟩
          rw [← hsm'] at z0 hpm
          rw [← hnf'] at z1 hpm
          rw [← hnb'] at z2 hpm
          obtain ⟨X4, hX4⟩ : ∃ X4, X4 = (X3.alloc (.cells #[.string sm', .slice y1 nf' y2, .slice y3 nb' y4] 32)).drew := ⟨_, rfl⟩
          have hb34 : Below X3.heap.size X3 X4 := by rw [hX4]; exact ((Below.refl _ X3).alloc (Nat.le_refl _) _).trans (drewN_under (X3.alloc _) 1 |>.mono (by simp))
          have hs4 : X4.heap.size = X3.heap.size + 1 := by rw [hX4]; exact World.size_alloc _ _
          have hblk4 : X4.heap[X3.heap.size]? = some (.cells #[.string sm', .slice y1 nf' y2, .slice y3 nb' y4] 32 (0, 0)) := by rw [hX4]; exact heap_alloc_new X3 _
          obtain ⟨im, hi0, hi1, hi2, hi3⟩ := info_parts info_msr
          have hown4 := own_below t6 hb34
          have hixl : ix'.length ≤ 200 := by have := goodIx_len HA2.out; have := HN2.out; omega
          have HRUN := Lib.hid (run_append_own_at (P := Try.prog) X4 w.heap.size 23 23 32 im _ 3 64 Try.underlying23 hi0 hi1 hi2 hi3 rfl (by decide) v ix'.length _ hown4 ⟨X3.heap.size, 0, none⟩ 1 1 (msM s.msgs Q p) (by rw [hpm]; rfl)
            (fun j u hu => by
              rw [hpm] at hu
              have hplain : (⟨X3.heap.size, 0, none⟩ : Addr).add j = ⟨X3.heap.size, j, none⟩ := by unfold Addr.add; split <;> simp_all
              rw [hplain]
              exact (obj_cell hblk4 j).trans (by rw [← List.getElem?_toArray] at hu; exact hu))
            (fun u hu => by rw [hpm] at hu; simp at hu; rcases hu with rfl | rfl | rfl <;> rfl) (by unfold maxLen; omega) (by omega) (by have := hk3.k_bel.size; omega))
          have HK3 := Lib.hid hk3
          have T5 := Lib.hid t5
          have T6 := Lib.hid t6
          have T7 := Lib.hid t7
          have HB34 := Lib.hid hb34
          have HX4 := Lib.hid hX4
          rw [← hsm', ← hnf', ← hnb'] at hcl
          have HHC := Lib.hid hcl
          have HEND : Hid (∀ v' X5, X5.ownsRow w.heap.size 32 3 v' (ix'.length + 1) (ix'.flatMap (msM s.msgs Q) ++ msM s.msgs Q p) → X4.grownBy X5 v.ownBlock → (v'.ownBlock = v.ownBlock ∨ v'.ownBlock = some X4.heap.size) →
              (X5.cell? ⟨w.heap.size, 1, none⟩ = some (.slice (some ⟨ge, oe, none⟩) n2 cap2) ∧ X5.cell? ⟨ge, oe + p * 3, none⟩ = some (.string sm') ∧ X5.cell? ⟨ge, oe + p * 3 + 1, none⟩ = some (.slice y1 nf' y2) ∧ X5.cell? ⟨ge, oe + p * 3 + 2, none⟩ = some (.slice y3 nb' y4)) ∧
              X5.cell? ⟨w.heap.size + 1 + 1, 0, none⟩ = some v ∧ X5.frozen? ⟨w.heap.size + 1 + 1, 0, none⟩ = false ∧
              ((X5.setCell ⟨w.heap.size + 1 + 1, 0, none⟩ v').cell? ⟨w.heap.size, 1, none⟩ = some (.slice (some ⟨ge, oe, none⟩) n2 cap2) ∧ (X5.setCell ⟨w.heap.size + 1 + 1, 0, none⟩ v').cell? ⟨ge, oe + p * 3, none⟩ = some (.string sm') ∧ (X5.setCell ⟨w.heap.size + 1 + 1, 0, none⟩ v').cell? ⟨ge, oe + p * 3 + 1, none⟩ = some (.slice y1 nf' y2) ∧ (X5.setCell ⟨w.heap.size + 1 + 1, 0, none⟩ v').cell? ⟨ge, oe + p * 3 + 2, none⟩ = some (.slice y3 nb' y4)) ∧
              InnI w w4.heap.size w3.heap.size A n cap (some ⟨ge, oe, none⟩) n2 cap2 s Q w6.heap.size W.heap.size W2 (msC m (Q a)) i ix rs (k + 1) (X5.setCell ⟨w.heap.size + 1 + 1, 0, none⟩ v') ∧ keep1 (W.heap.size + 3) X2 (X5.setCell ⟨w.heap.size + 1 + 1, 0, none⟩ v')) := Lib.hid (by
            intro v' X5 ho hgr hloc
            have hx23 := HTU3.out.size
            have hl2 := HL2.out
            have hrow : ∀ g, v.ownBlock = some g → w.heap.size ≤ g ∧ ¬ ((g = w6.heap.size ∨ g = w6.heap.size + 1 ∨ g = w3.heap.size) ∨ (W.heap.size ≤ g ∧ g ≤ W.heap.size + 3)) := fun g hg => ⟨(t6.lt g hg).1, t7 g hg⟩
            have n1 : v.ownBlock ≠ some w.heap.size := own_other t6 hk3.k_s (by decide)
            have n2' : v.ownBlock ≠ some w4.heap.size := own_other t6 hk3.k_l (by decide)
            have n3 : v.ownBlock ≠ some (w.heap.size + 2) := own_other t6 t5 (by decide)
            have hbel5 : Below w.heap.size w X5 := (hk3.k_bel.trans (hb34.mono hk3.k_bel.size)).grown hgr (Nat.le_trans hk3.k_bel.size hb34.size) (fun k hk => (hrow k hk).1)
            have hbel6 : Below w.heap.size w (X5.setCell ⟨w.heap.size + 1 + 1, 0, none⟩ v') := hbel5.setCell (by show w.heap.size ≤ w.heap.size + 1 + 1; omega) v'
            have hs5 : X5.heap[w.heap.size]? = some (.cells #[.slice A n cap, .slice (some ⟨ge, oe, none⟩) n2 cap2] 25 (0, 0)) := (hgr.block _ (Nat.lt_of_lt_of_le (lt_of_block hk3.k_s) hb34.size) (fun e => n1 e.symm)).trans ((hb34.block _ (lt_of_block hk3.k_s)).trans hk3.k_s)
            have ht5' : X5.heap[w.heap.size + 2]? = some (.cells #[v] 23 (0, 0)) := (hgr.block _ (Nat.lt_of_lt_of_le (lt_of_block t5) hb34.size) (fun e => n3 e.symm)).trans ((hb34.block _ (lt_of_block t5)).trans t5)
            have hs6 : (X5.setCell ⟨w.heap.size + 1 + 1, 0, none⟩ v').heap[w.heap.size]? = some (.cells #[.slice A n cap, .slice (some ⟨ge, oe, none⟩) n2 cap2] 25 (0, 0)) := (Below.heap_setCell _ _ _ _ (by show ¬ w.heap.size = w.heap.size + 1 + 1; omega)).trans hs5
            obtain ⟨g1, g2⟩ := hk3.more (p := p) hb34 t5 hrow hgr ho hloc (fun g hg => ⟨fun e => n1 (e ▸ hg), fun e => n2' (e ▸ hg), fun e => (hrow g hg).2 (.inl (.inr (.inr e))), fun e => n3 (e ▸ hg)⟩) (fun g hg => by omega) (by omega) (by omega)
            have g3 : ∀ j, j < X2.heap.size → ((j = w6.heap.size ∨ j = w6.heap.size + 1 ∨ j = w3.heap.size) ∨ (W.heap.size ≤ j ∧ j ≤ W.heap.size + 3)) → j ≠ w.heap.size + 2 → j ≠ w3.heap.size → (X5.setCell ⟨w.heap.size + 1 + 1, 0, none⟩ v').heap[j]? = X2.heap[j]? := fun j h1 h2 h3 h4 => (g2 j (by omega) h2 h3).trans (HTU3.out.block j h1 (fun e => h4 (Option.some.inj e)))
            have hsz6 : X2.heap.size ≤ (X5.setCell ⟨w.heap.size + 1 + 1, 0, none⟩ v').heap.size := by
              have h1 := hb34.size
              have h2 := hgr.size
              have h3 : (X5.setCell ⟨w.heap.size + 1 + 1, 0, none⟩ v').heap.size = X5.heap.size := by simp [World.setCell]
              omega
            obtain ⟨p0, p1, p2⟩ := HHC.out X5 (KeepS.of_below hbel5)
            obtain ⟨o0, o1, o2⟩ := HHC.out _ (KeepS.of_below hbel6)
            refine ⟨⟨obj_cell hs5 1, p0, p1, p2⟩, obj_cell ht5' 0, obj_free ht5' 0, ⟨obj_cell hs6 1, o0, o1, o2⟩, ⟨ix' ++ [p], g1, HGI'.out, by rw [HNM'.out, HSTEP.out, ← HA3.out], by rw [List.length_append]; have := HA4.out; omega, ?_, ?_, ?_⟩, ?_, hsz6⟩
            · exact (g3 _ (by omega) (.inr (by omega)) (by omega) (by omega)).trans HA5.out
            · exact (g3 _ (by omega) (.inr (by omega)) (by omega) (by omega)).trans HA6.out
            · obtain ⟨q1, q2, q3⟩ := HA7.out
              exact ⟨(g3 _ (by omega) (.inl (.inr (.inl rfl))) (by omega) (by omega)).trans q1, (g3 _ (by omega) (.inl (.inl rfl)) (by omega) (by omega)).trans q2, Nat.le_trans q3 hsz6⟩
            · exact g3 _ (by omega) (.inr (by omega)) (by omega) (by omega))
          have zq := HHC.out X4 (KeepS.of_below (hk3.k_bel.trans (hb34.mono hk3.k_bel.size)))
          obtain ⟨zq0, zq1, zq2⟩ := zq
          have zqs : X4.cell? ⟨w.heap.size, 1, none⟩ = some (.slice (some ⟨ge, oe, none⟩) n2 cap2) := obj_cell ((hb34.block _ (lt_of_block hk3.k_s)).trans hk3.k_s) 1
          have ZQ : Hid (X4.cell? ⟨w.heap.size, 1, none⟩ = some (.slice (some ⟨ge, oe, none⟩) n2 cap2) ∧ X4.cell? ⟨ge, oe + p * 3, none⟩ = some (.string sm') ∧ X4.cell? ⟨ge, oe + p * 3 + 1, none⟩ = some (.slice y1 nf' y2) ∧ X4.cell? ⟨ge, oe + p * 3 + 2, none⟩ = some (.slice y3 nb' y4)) := Lib.hid ⟨zqs, zq0, zq1, zq2⟩
          have zt4 : X4.cell? ⟨w.heap.size + 1 + 1, 0, none⟩ = some v := obj_cell ((hb34.block _ (lt_of_block t5)).trans t5) 0
          have ZT4 := Lib.hid zt4
          clear hbm hlt zq0 zq1 zq2 zqs zt4 hs3' hk3 t5 t6 t7 hga hcl hpm hsm' hnf' hnb' hX4 hb34 hs4 hblk4 hi0 hi1 hi2 hi3 hown4 hq1 hq2 hq3 hq4
          refine wpIn_region_heldR (fun U => U.cell? ⟨w.heap.size, 1, none⟩ = some (.slice (some ⟨ge, oe, none⟩) n2 cap2) ∧ U.cell? ⟨ge, oe + p * 3, none⟩ = some (.string sm') ∧ U.cell? ⟨ge, oe + p * 3 + 1, none⟩ = some (.slice y1 nf' y2) ∧ U.cell? ⟨ge, oe + p * 3 + 2, none⟩ = some (.slice y3 nb' y4)) (by kernel_rfl) (by kernel_rfl) ?hqq ?_
          case hqq => exact fun ⟨_, _, h⟩ => h
          refine wpAnyH_take (i := 1) (v := .pointer (some ⟨w.heap.size, 1, none⟩)) rfl (by kernel_rfl) (by kernel_rfl) (by kernel_rfl) (fun _ _ _ h => h) (.inl ⟨by rfl, fun U hS => ?hy1⟩) ⟨zs, z0, z1, z2⟩ ?_
          case hy1 => go_simp
          refine wpAnyH_take (i := 2) (v := .slice (some ⟨ge, oe, none⟩) n2 cap2) rfl (by kernel_rfl) (by kernel_rfl) (by kernel_rfl) (fun _ _ _ h => h) (.inl ⟨by rfl, fun U hS => ?hy2⟩) ⟨zs, z0, z1, z2⟩ ?_
          case hy2 => obtain ⟨u0, u1, u2, u3⟩ := hS; go_simp
          refine wpAnyH_take (i := 3) (v := .int .i64 (p : Int)) rfl (by kernel_rfl) (by kernel_rfl) (by kernel_rfl) (fun _ _ _ h => h) (.inl ⟨by rfl, fun U hS => ?hy3⟩) ⟨zs, z0, z1, z2⟩ ?_
          case hy3 => go_simp
          refine wpAnyH_take (i := 4) (v := .pointer (some ⟨ge, oe + p * 3, none⟩)) rfl (by kernel_rfl) (by kernel_rfl) (by kernel_rfl) (fun _ _ _ h => h) (.inl ⟨by rfl, fun U hS => ?hy4⟩) ⟨zs, z0, z1, z2⟩ ?_
          case hy4 => go_simp
          refine wpAnyH_take (i := 5) (v := .agg #[.string sm', .slice y1 nf' y2, .slice y3 nb' y4]) rfl (by kernel_rfl) (by kernel_rfl) (by kernel_rfl) (fun _ _ _ h => h) (.inl ⟨by rfl, fun U hS => ?hy5⟩) ⟨zs, z0, z1, z2⟩ ?_
          case hy5 => obtain ⟨u0, u1, u2, u3⟩ := hS; go_simp
          refine wpAnyH_all (rs := [0, 6]) (by kernel_rfl) (by simp) (fun i hi => ?_)
          rcases List.mem_cons.mp hi with rfl | hi
          · refine wpOp_step rfl (fun K hK => ?_)
            go_simp
            refine hK _ _ ⟨⟨zs, z0, z1, z2⟩, ?_⟩
            clear hK K
            refine wpAnyH_all (rs := [6]) (by kernel_rfl) (by simp) (fun i hi => ?_)
            obtain rfl := List.mem_singleton.mp hi
            refine wpOp_step rfl (fun K hK => ?_)
            go_simp
            rw [← HX4.out]
            refine hK _ _ ⟨ZQ.out, ?_⟩
            clear hK K
            refine wpAnyH_all (rs := [7]) (by kernel_rfl) (by simp) (fun i hi => ?_)
            obtain rfl := List.mem_singleton.mp hi
            refine wpOp_step rfl (fun K hK => ?_)
            refine step_append_run (by rfl) (.tmp 46) (.tmp 52) rfl rfl rfl HRUN.out ?_
            rintro v' X5 ⟨ho, hgr, _, hloc⟩
            obtain ⟨A5, cap5, rfl, _⟩ := own_form ho
            obtain ⟨y5, yt, yf, y6, hin, hkp⟩ := HEND.out _ X5 ho hgr hloc
            refine hK _ _ ⟨y5, ?_⟩
            clear hK K
            refine wpAnyH_all (rs := [8]) (by kernel_rfl) (by simp) (fun i hi => ?_)
            obtain rfl := List.mem_singleton.mp hi
            refine wpOp_step rfl (fun K hK => ?_)
            go_simp
            refine hK _ _ ⟨y6, ?_⟩
            refine wpAnyH_done (by kernel_rfl) ?_ _
            exact ⟨⟨k + 1, rfl, hin⟩, hkp⟩
          · obtain rfl := List.mem_singleton.mp hi
            refine wpOp_step rfl (fun K hK => ?_)
            go_simp
            rw [← HX4.out]
            refine hK _ _ ⟨ZQ.out, ?_⟩
            clear hK K
            have zt4 := ZT4.out
            refine wpAnyH_all (rs := [0]) (by kernel_rfl) (by simp) (fun i hi => ?_)
            obtain rfl := List.mem_singleton.mp hi
            refine wpOp_step rfl (fun K hK => ?_)
            go_simp
            refine hK _ _ ⟨ZQ.out, ?_⟩
            clear hK K
            refine wpAnyH_all (rs := [7]) (by kernel_rfl) (by simp) (fun i hi => ?_)
            obtain rfl := List.mem_singleton.mp hi
            refine wpOp_step rfl (fun K hK => ?_)
            refine step_append_run (by rfl) (.tmp 46) (.tmp 52) rfl rfl rfl HRUN.out ?_
            rintro v' X5 ⟨ho, hgr, _, hloc⟩
            obtain ⟨A5, cap5, rfl, _⟩ := own_form ho
            obtain ⟨y5, yt, yf, y6, hin, hkp⟩ := HEND.out _ X5 ho hgr hloc
            refine hK _ _ ⟨y5, ?_⟩
            clear hK K
            refine wpAnyH_all (rs := [8]) (by kernel_rfl) (by simp) (fun i hi => ?_)
            obtain rfl := List.mem_singleton.mp hi
            refine wpOp_step rfl (fun K hK => ?_)
            go_simp
            refine hK _ _ ⟨y6, ?_⟩
            refine wpAnyH_done (by kernel_rfl) ?_ _
            exact ⟨⟨k + 1, rfl, hin⟩, hkp⟩
    case ihdone =>
      rintro k X1 hk ⟨ix', a1, a2, a3, a4, a5, a6, a7⟩
      have hlen : rs.length ≤ k := by
        unfold refVals at hk
        cases hr : rs[k]? with
        | none => exact List.getElem?_eq_none_iff.mp hr
        | some r => rw [hr] at hk; cases hk
      rw [List.take_of_length_le hlen] at a3
      have hkg := HKG.out
      rw [← a3] at hkg
      gi_wp2
      exact ⟨⟨(i + 1, ix'), rfl, a1.less_P (fun g hg => .inl hg), a2, a4, hkg⟩, a7⟩
    case ihstop =>
      rintro X1 ⟨ix', f, a1, a2, a3, a4⟩
      gi_wp2
      exact ⟨⟨rfl, ix', f, a1.less_P (fun g hg => .inl hg), a2, a3⟩, a4⟩
  case hdone =>
    rintro ⟨i, ix⟩ W hk ⟨h1, h2, h3, h4⟩ hD
    dsimp only at h1 h2 h3 h4
    have hix : ix.length ≤ i := by
      unfold grVals at hk
      dsimp only at hk
      cases hr : ix[i]? with
      | none => exact List.getElem?_eq_none_iff.mp hr
      | some a => rw [hr] at hk; cases hk
    have hnm : namesOf s.msgs ix = kinT s := by rw [← h4, kinGo_last hix]
    obtain ⟨v, t5, t6, t7⟩ := h1.k_t
    have ls := HGT6.out
    have ls3 := HS3.out
    have hf := h1.kept (grownBy_putObj' W w6.heap.size (.deferred none)) (.inl rfl) (by omega) (by omega) (by omega)
    obtain ⟨v2, u5, u6, u7⟩ := hf.k_t
    have e5 : W.heap[w.heap.size + 2]? = some (.cells #[v2] 23 (0, 0)) := (World.putObj_heap_other (by omega)).symm.trans u5
    have c0 := obj_cell e5 0
    have HF := Lib.hid hf.k_bel
    have HU6 := Lib.hid u6
    have HNM := Lib.hid hnm
    have HGD := Lib.hid h2
    have HD := Lib.hid hD
    clear h1 h2 h3 h4 hk hix hnm t5 t6 t7 hf u5 u6 u7 e5 ls ls3
    go_wp2_with fail
    refine ⟨by simp, .inl ⟨_, _, rfl, run_takeDeferred (b := w6.heap.size) (ds := []) HD.out, ?_⟩⟩
    exact ⟨_, results_tmp rfl _ _ _, v2, ix, rfl, HU6.out, HGD.out, HNM.out, HF.out⟩
  case hstop =>
    rintro W ⟨ix, f, h1, h2, hnm⟩ hD
    have ls := HGT6.out
    have ls3 := HS3.out
    have hf := h1.kept (grownBy_putObj' W w6.heap.size (.deferred none)) (.inl rfl) (by omega) (by omega) (by omega)
    obtain ⟨v2, u5, u6, u7⟩ := hf.k_t
    have e5 : W.heap[w.heap.size + 2]? = some (.cells #[v2] 23 (0, 0)) := (World.putObj_heap_other (by omega)).symm.trans u5
    have c0 := obj_cell e5 0
    have HF := Lib.hid hf.k_bel
    have HU6 := Lib.hid u6
    have HNM := Lib.hid hnm
    have HGD := Lib.hid h2
    have HD := Lib.hid hD
    clear h1 h2 hnm hf u5 u6 u7 e5 ls ls3
    gi_wp2
    go_wp2_with fail
    refine ⟨by simp, .inl ⟨_, _, rfl, run_takeDeferred (b := w6.heap.size) (ds := []) HD.out, ?_⟩⟩
    exact ⟨_, results_tmp rfl _ _ _, v2, ix, rfl, HU6.out, HGD.out, HNM.out, HF.out⟩

theorem reached_none (w : World) {A A2 : Option Addr} {n cap cap2 : Nat} (m2 : cap2 ≤ 9223372036854775807) :
    Calls Try.prog 52 #[.agg #[.slice A n cap, .slice A2 0 cap2]] w fun e w' => e = .returned (.slice none 0 0) ∧ Below w.heap.size w w' := by
  have HBX := Lib.hid (bx_start w #[.slice A n cap, .slice A2 0 cap2] 25)
  have r1 := obj_cell HBX.out.b_blk 1
  go_enter Try.func52, Try.ntmps52
  go_wp2
  go_step3
  go_wp2
  rw [Exit.noGoto_ret]
  go_ret
  exact ⟨rfl, HBX.out.b_bel⟩
theorem reached_any {S : Nat → Nat → Prop} (w : World) {A A2 : Option Addr} {n cap n2 cap2 : Nat} {s : Sc} {Q : MsPl} (h : ScAt S w A n cap A2 n2 cap2 s) (hS : ∀ k g, S k g → g < w.heap.size) (hok : ScOk s) (hsm : smallT s = true) (hQ : MsQ S w A2 s.msgs Q) :
    Calls Try.prog 52 #[.agg #[.slice A n cap, .slice A2 n2 cap2]] w fun e w' => ∃ v ix, e = .returned v ∧ w'.ownsRow w.heap.size 32 3 v ix.length (ix.flatMap (msM s.msgs Q)) ∧ GoodIx s ix ∧ namesOf s.msgs ix = kinT s ∧ Below w.heap.size w w' := by
  by_cases hne : 0 < n2
  · exact reached_some w h hS hok hsm hQ hne
  · obtain ⟨m1, m2, m3, m4⟩ := scAt_max h
    obtain rfl : n2 = 0 := by omega
    refine (reached_none w m4).mono ?_
    rintro e w' ⟨rfl, hb⟩
    refine ⟨_, [], rfl, World.ownsRow_nil _ _ _ _, ⟨fun a ha => by simp at ha, ?_⟩, ?_, hb⟩
    · exact ⟨fun t ht => by simp [namesOf] at ht, by simp [namesOf]⟩
    · rw [kinT_none h.s_nm.symm]; rfl
end Go.Proofs.Ytmajhjkibmbikaa
