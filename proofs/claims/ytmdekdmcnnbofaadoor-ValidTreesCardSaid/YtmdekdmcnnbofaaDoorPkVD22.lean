/- Several texts in one: TrIn, TrCame, FlIn. What each proves, and its conditions, stands at its own head. -/
import Derived.Test.YtmdekdmcnnbofaaDoorPkVD2
import Derived.Test.YtmdekdmcnnbofaaDoorPkVD7
import Derived.Test.YtmdekdmcnnbofaaDoorPkVD5
import Derived.Test.YtmdekdmcnnbofaaDoorPkVD20
import Derived.Test.YtmdekdmcnnbofaaDoorPkVD0
import Derived.OpenShut
import Derived.ProofKit
import Derived.SizedLaws
import Derived.Test.YtmdekdmcnnbofaaDoorPkVD13
import Derived.Test.YtmdekdmcnnbofaaDoorPkVD19
/- Trees in memory: what is read, what is kept, what came in. Conditions: those that each theorem names. -/
namespace Go.Proofs.YtmdekdmcnnbofaaDoor
open Go.RowKit Go.ChangeShapes Go.WideShapes
set_option linter.unusedVariables false
set_option maxRecDepth 100000

def rwR (w : World) (cs : List Value) (x : Rw) : Prop := cs = rawCells x
def vaR (R : World → List Value → Tr → Prop) (S : Nat → Prop) (w : World) (cs : List Value) (x : Va) : Prop := ∃ A cap, cs = [.int .u64 (x.vn : Int), .string (strOf x.vs), .slice A x.vm.length cap] ∧ Lst 2 S R w A cap x.vm
def slR (R : World → List Value → Tr → Prop) (S : Nat → Prop) (w : World) (cs : List Value) (x : Slt) : Prop := ∃ A cap, cs = [.int .i64 x.snum, .slice A x.svals.length cap] ∧ Lst 3 S (vaR R S) w A cap x.svals
/-- A tree as it is handed over: its trees within read by R, its blocks are of S. -/
structure TrL (R : World → List Value → Tr → Prop) (S : Nat → Prop) (w : World) (A : Option Addr) (na ca : Nat) (A2 : Option Addr) (nr cr : Nat) (x : Tr) : Prop where
  t_s : Lst 2 S (slR R S) w A ca x.slots
  t_r : Lst 4 S rwR w A2 cr x.rest
  t_ns : na = x.slots.length
  t_nr : nr = x.rest.length
/-- A tree, down to a level. -/
def trR (S : Nat → Prop) : Nat → World → List Value → Tr → Prop
  | 0 => fun _ _ _ => False
  | n + 1 => fun w cs x => ∃ A na ca A2 nr cr, cs = [.slice A na ca, .slice A2 nr cr] ∧ TrL (trR S n) S w A na ca A2 nr cr x
/-- What lies in these blocks stays. -/
def Stay (S : Nat → Prop) (w wr : World) : Prop := ∀ p : Addr, S p.block → p.block < w.heap.size → wr.cell? p = w.cell? p
theorem stay_bel {S : Nat → Prop} {w wr : World} (hb : Below w.heap.size w wr) : Stay S w wr := fun p _ hp => hb.cell hp
theorem stay_refl (S : Nat → Prop) (w : World) : Stay S w w := fun _ _ _ => rfl
theorem stay_touch {S D : Nat → Prop} {w wr : World} (h : Touch D w wr) (hd : ∀ k, S k → ¬ D k) : Stay S w wr := fun p hs hp => h.cell hp (hd _ hs)
section
variable {S S' : Nat → Prop} {R R' : World → List Value → Tr → Prop} {w w' : World}
theorem vaR_keep (hR : ∀ cs t, R w cs t → R' w' cs t) (hS : ∀ g, S g → S' g) (hk : Stay S w w') : ∀ cs x, vaR R S w cs x → vaR R' S' w' cs x :=
  fun cs x ⟨A, cap, e, h⟩ => ⟨A, cap, e, lst_keep h hR hS hk⟩
theorem slR_keep (hR : ∀ cs t, R w cs t → R' w' cs t) (hS : ∀ g, S g → S' g) (hk : Stay S w w') : ∀ cs x, slR R S w cs x → slR R' S' w' cs x :=
  fun cs x ⟨A, cap, e, h⟩ => ⟨A, cap, e, lst_keep h (vaR_keep hR hS hk) hS hk⟩
theorem trL_keep {A A2 : Option Addr} {na ca nr cr : Nat} {x : Tr} (hR : ∀ cs t, R w cs t → R' w' cs t) (hS : ∀ g, S g → S' g) (hk : Stay S w w') (h : TrL R S w A na ca A2 nr cr x) : TrL R' S' w' A na ca A2 nr cr x :=
  ⟨lst_keep h.t_s (slR_keep hR hS hk) hS hk, lst_keep h.t_r (fun _ _ h => h) hS hk, h.t_ns, h.t_nr⟩
theorem trR_keep (hS : ∀ g, S g → S' g) (hk : Stay S w w') : ∀ (n : Nat) cs t, trR S n w cs t → trR S' n w' cs t
  | 0, _, _, h => h.elim
  | n + 1, _, _, ⟨A, na, ca, A2, nr, cr, e, h⟩ => ⟨A, na, ca, A2, nr, cr, e, trL_keep (trR_keep hS hk n) hS hk h⟩
theorem trR_up : ∀ (n : Nat) cs t, trR S n w cs t → trR S (n + 1) w cs t
  | 0, _, _, h => h.elim
  | n + 1, _, _, ⟨A, na, ca, A2, nr, cr, e, h⟩ => ⟨A, na, ca, A2, nr, cr, e, trL_keep (trR_up n) (fun _ h => h) (stay_refl _ _) h⟩
theorem trR_le {n m : Nat} (h : n ≤ m) : ∀ cs t, trR S n w cs t → trR S m w cs t := by
  induction h with
  | refl => exact fun _ _ h => h
  | step _ ih => exact fun cs t ht => trR_up _ _ _ (ih cs t ht)
/-- A tree whose trees within are read down to a level. -/
def TrAt (S : Nat → Prop) (n : Nat) (w : World) (A : Option Addr) (na ca : Nat) (A2 : Option Addr) (nr cr : Nat) (x : Tr) : Prop := TrL (trR S n) S w A na ca A2 nr cr x
theorem trAt_keep {n : Nat} {A A2 : Option Addr} {na ca nr cr : Nat} {x : Tr} (h : TrAt S n w A na ca A2 nr cr x) (hS : ∀ g, S g → S' g) (hk : Stay S w w') : TrAt S' n w' A na ca A2 nr cr x :=
  trL_keep (trR_keep hS hk n) hS hk h
theorem trAt_bel {n : Nat} {A A2 : Option Addr} {na ca nr cr : Nat} {x : Tr} (h : TrAt S n w A na ca A2 nr cr x) (hb : Below w.heap.size w w') : TrAt S n w' A na ca A2 nr cr x := trAt_keep h (fun _ h => h) (stay_bel hb)
theorem trAt_max {n : Nat} {A A2 : Option Addr} {na ca nr cr : Nat} {x : Tr} (h : TrAt S n w A na ca A2 nr cr x) : na ≤ ca ∧ ca ≤ 9223372036854775807 ∧ nr ≤ cr ∧ cr ≤ 9223372036854775807 := by
  have h1 := h.t_s.l_le
  have h2 := h.t_s.l_max
  have h3 := h.t_r.l_le
  have h4 := h.t_r.l_max
  unfold maxLen at h2 h4
  rw [← h.t_ns] at h1
  rw [← h.t_nr] at h3
  exact ⟨h1, h2, h3, h4⟩
/-- Values: their trees read down to a level. -/
def VsAt (S : Nat → Prop) (n : Nat) (w : World) (A : Option Addr) (c : Nat) (l : List Va) : Prop := Lst 3 S (vaR (trR S n) S) w A c l
theorem vsAt_keep {n : Nat} {A : Option Addr} {c : Nat} {l : List Va} (h : VsAt S n w A c l) (hS : ∀ g, S g → S' g) (hk : Stay S w w') : VsAt S' n w' A c l :=
  lst_keep h (vaR_keep (trR_keep hS hk n) hS hk) hS hk
theorem vsAt_bel {n : Nat} {A : Option Addr} {c : Nat} {l : List Va} (h : VsAt S n w A c l) (hb : Below w.heap.size w w') : VsAt S n w' A c l := vsAt_keep h (fun _ h => h) (stay_bel hb)
def KsAt (S : Nat → Prop) (n : Nat) (w : World) (A : Option Addr) (c : Nat) (l : List Tr) : Prop := Lst 2 S (trR S n) w A c l
theorem ksAt_bel {n : Nat} {A : Option Addr} {c : Nat} {l : List Tr} (h : KsAt S n w A c l) (hb : Below w.heap.size w w') : KsAt S n w' A c l := lst_keep h (trR_keep (fun _ h => h) (stay_bel hb) n) (fun _ h => h) (stay_bel hb)
theorem ksAt_keep {n : Nat} {A : Option Addr} {c : Nat} {l : List Tr} (h : KsAt S n w A c l) (hS : ∀ g, S g → S' g) (hk : Stay S w w') : KsAt S' n w' A c l := lst_keep h (trR_keep hS hk n) hS hk
end

section
variable {S : Nat → Prop} {n : Nat} {w : World} {A : Option Addr} {cap i : Nat}
theorem rw_at {l : List Rw} {x : Rw} (h : Lst 4 S rwR w A cap l) (hi : l[i]? = some x) : ∃ g off, A = some ⟨g, off, none⟩ ∧ S g ∧ ∀ wr, Stay S w wr → wr.cell? ⟨g, off + i * 4, none⟩ = some (.int .i64 x.num) ∧ wr.cell? ⟨g, off + i * 4 + 1, none⟩ = some (.int .i64 x.wire) ∧ wr.cell? ⟨g, off + i * 4 + 2, none⟩ = some (.int .u64 (x.n : Int)) ∧ wr.cell? ⟨g, off + i * 4 + 3, none⟩ = some (.string (strOf x.s)) := by
  obtain ⟨g, off, cs, e, hs, _, rfl, hc⟩ := h.l_at i x hi
  exact ⟨g, off, e, hs, fun wr hb => ⟨(hb _ hs (lt_of_cell (hc 0 _ rfl))).trans (hc 0 _ rfl), (hb _ hs (lt_of_cell (hc 0 _ rfl))).trans (hc 1 _ rfl), (hb _ hs (lt_of_cell (hc 0 _ rfl))).trans (hc 2 _ rfl), (hb _ hs (lt_of_cell (hc 0 _ rfl))).trans (hc 3 _ rfl)⟩⟩
theorem sl_at {l : List Slt} {x : Slt} (h : Lst 2 S (slR (trR S n) S) w A cap l) (hi : l[i]? = some x) : ∃ g off A1 c1, A = some ⟨g, off, none⟩ ∧ S g ∧ (∀ wr, Stay S w wr → wr.cell? ⟨g, off + i * 2, none⟩ = some (.int .i64 x.snum) ∧ wr.cell? ⟨g, off + i * 2 + 1, none⟩ = some (.slice A1 x.svals.length c1)) ∧ VsAt S n w A1 c1 x.svals := by
  obtain ⟨g, off, cs, e, hs, _, ⟨A1, c1, rfl, h1⟩, hc⟩ := h.l_at i x hi
  exact ⟨g, off, A1, c1, e, hs, fun wr hb => ⟨(hb _ hs (lt_of_cell (hc 0 _ rfl))).trans (hc 0 _ rfl), (hb _ hs (lt_of_cell (hc 0 _ rfl))).trans (hc 1 _ rfl)⟩, h1⟩
theorem va_at {l : List Va} {x : Va} (h : VsAt S n w A cap l) (hi : l[i]? = some x) : ∃ g off A1 c1, A = some ⟨g, off, none⟩ ∧ S g ∧ (∀ wr, Stay S w wr → wr.cell? ⟨g, off + i * 3, none⟩ = some (.int .u64 (x.vn : Int)) ∧ wr.cell? ⟨g, off + i * 3 + 1, none⟩ = some (.string (strOf x.vs)) ∧ wr.cell? ⟨g, off + i * 3 + 2, none⟩ = some (.slice A1 x.vm.length c1)) ∧ KsAt S n w A1 c1 x.vm := by
  obtain ⟨g, off, cs, e, hs, _, ⟨A1, c1, rfl, h1⟩, hc⟩ := h.l_at i x hi
  exact ⟨g, off, A1, c1, e, hs, fun wr hb => ⟨(hb _ hs (lt_of_cell (hc 0 _ rfl))).trans (hc 0 _ rfl), (hb _ hs (lt_of_cell (hc 0 _ rfl))).trans (hc 1 _ rfl), (hb _ hs (lt_of_cell (hc 0 _ rfl))).trans (hc 2 _ rfl)⟩, h1⟩
theorem kid_at {l : List Tr} {x : Tr} (h : KsAt S n w A cap l) (hi : l[i]? = some x) : ∃ m g off A1 na c1 A2 nr c2, n = m + 1 ∧ A = some ⟨g, off, none⟩ ∧ S g ∧ (∀ wr, Stay S w wr → wr.cell? ⟨g, off + i * 2, none⟩ = some (.slice A1 na c1) ∧ wr.cell? ⟨g, off + i * 2 + 1, none⟩ = some (.slice A2 nr c2)) ∧ TrAt S m w A1 na c1 A2 nr c2 x := by
  obtain ⟨g, off, cs, e, hs, _, hr, hc⟩ := h.l_at i x hi
  match n, hr with
  | m + 1, ⟨A1, na, c1, A2, nr, c2, e2, h1⟩ =>
    subst e2
    exact ⟨m, g, off, A1, na, c1, A2, nr, c2, rfl, e, hs, fun wr hb => ⟨(hb _ hs (lt_of_cell (hc 0 _ rfl))).trans (hc 0 _ rfl), (hb _ hs (lt_of_cell (hc 0 _ rfl))).trans (hc 1 _ rfl)⟩, h1⟩
/-- The blocks were there. -/
theorem lst_lt {α : Type} {k : Nat} {R R' : World → List Value → α → Prop} {l : List α} (hk : 0 < k) (h : Lst k S R w A cap l) (hR : ∀ cs x, R w cs x → R' w cs x) : Lst k (fun g => S g ∧ g < w.heap.size) R' w A cap l :=
  ⟨h.l_le, h.l_max, h.l_nil, fun j x hj => by
    obtain ⟨g, off, cs, e, hg, hl, hr, hc⟩ := h.l_at j x hj
    exact ⟨g, off, cs, e, ⟨hg, World.block_lt_of_cell? w ⟨g, off + j * k + 0, none⟩ (hc 0 _ (List.getElem?_eq_getElem (by omega)))⟩, hl, hR cs x hr, hc⟩⟩
theorem trR_lt : ∀ (n : Nat) cs t, trR S n w cs t → trR (fun g => S g ∧ g < w.heap.size) n w cs t
  | 0, _, _, h => h.elim
  | n + 1, _, _, ⟨A, na, ca, A2, nr, cr, e, h⟩ => ⟨A, na, ca, A2, nr, cr, e, lst_lt (by decide) h.t_s (fun cs x ⟨A, c, e, h⟩ => ⟨A, c, e, lst_lt (by decide) h (fun cs x ⟨A, c, e, h⟩ => ⟨A, c, e, lst_lt (by decide) h (trR_lt n)⟩)⟩), lst_lt (by decide) h.t_r (fun _ _ h => h), h.t_ns, h.t_nr⟩
theorem trAt_lt {na ca nr cr : Nat} {A2 : Option Addr} {x : Tr} (h : TrAt S n w A na ca A2 nr cr x) : TrAt (fun g => S g ∧ g < w.heap.size) n w A na ca A2 nr cr x :=
  ⟨lst_lt (by decide) h.t_s (fun cs x ⟨A, c, e, h⟩ => ⟨A, c, e, lst_lt (by decide) h (fun cs x ⟨A, c, e, h⟩ => ⟨A, c, e, lst_lt (by decide) h (trR_lt n)⟩)⟩), lst_lt (by decide) h.t_r (fun _ _ h => h), h.t_ns, h.t_nr⟩
end

/-- As lst_came, the readers' depth told. -/
theorem lst_came2 {α : Type} [Inhabited α] {H : Type} {enc : TypeId × Value → H} {P : Program} {w : World} {base : Nat} {spare : Nat → Bool} {held : Bool} {t e : TypeId} {k M : Nat} {R : World → List Value → α → Prop} {Ok : α → Prop} {fuel : Nat}
    (hu : P.underlying t = some (.slice e)) (ce : P.cellsOf e = k) (hk : 0 < k) (hby : 1 ≤ P.bytesOf e)
    (each : ∀ n, n < fuel → ∀ cs (x : DataW H × List MemPlace), DataW.trod enc P w base spare held n e cs = some x → (∀ n ∈ x.1.weights P e, n ≤ M) → ∃ v : α, R w cs v ∧ Ok v)
    {cs : List Value} {x : DataW H × List MemPlace} (h : DataW.trod enc P w base spare held fuel t cs = some x) (hz : ∀ n ∈ x.1.weights P t, n ≤ M) :
    ∃ (l : List α) (A : Option Addr) (cap : Nat), cs = [.slice A l.length cap] ∧ Lst k (fun g => g < w.heap.size) R w A cap l ∧ (∀ v ∈ l, Ok v) ∧ l.length ≤ M := by
  rcases DataW.trod_slice hu h with ⟨rfl, _⟩ | ⟨a, len, cap, elems, rest, n, hf, rfl, rfl, hb, hl, hm, hlen, hel, _, _⟩
  · exact ⟨[], none, 0, rfl, lst_empty _ _ _ (by decide) (fun _ => rfl), by simp, Nat.zero_le _⟩
  have hw : ∀ n ∈ ((elems.map (·.1)).length + (rest.map (·.1)).length) * P.bytesOf e :: (DataW.weightsAll P e (elems.map (·.1)) ++ DataW.weightsAll P e (rest.map (·.1))), n ≤ M := by
    intro n hn
    apply hz
    simp only [DataW.weights, hu]
    exact hn
  have hlM : len ≤ M := by
    have h1 := hw _ (List.mem_cons_self)
    rw [List.length_map, List.length_map, hlen] at h1
    have h2 : len * 1 ≤ (len + rest.length) * P.bytesOf e := Nat.mul_le_mul (by omega) hby
    omega
  have one : ∀ i, i < len → ∃ v : α, ∃ cs', cs'.length = k ∧ R w cs' v ∧ Ok v ∧ ∀ j u, cs'[j]? = some u → w.cell? ((a.add (i * k)).add j) = some u := by
    intro i hi
    have h0 := hel i hi
    rw [List.getElem?_eq_getElem (by omega)] at h0
    obtain ⟨cs', h1, h2⟩ := Option.bind_eq_some_iff.1 h0
    rw [ce] at h1
    obtain ⟨_, hlen', hcell⟩ := World.cells?_some h1
    obtain ⟨v, hr, ho⟩ := each n (by omega) _ _ h2 (fun n hn => hw n (List.mem_cons_of_mem _ (List.mem_append_left _ (weights_all (List.mem_map.mpr ⟨_, List.getElem_mem _, rfl⟩) n hn))))
    refine ⟨v, cs', hlen', hr, ho, fun j u hu => ?_⟩
    have hj := (List.getElem?_eq_some_iff.mp hu).1
    have := hcell j (by omega)
    rw [this, List.getElem?_eq_getElem hj] at *
    simpa using hu
  obtain ⟨q, hq⟩ : ∃ f : Nat → α, ∀ i, i < len → ∃ cs', cs'.length = k ∧ R w cs' (f i) ∧ Ok (f i) ∧ ∀ j u, cs'[j]? = some u → w.cell? ((a.add (i * k)).add j) = some u := Deep.choose_lt one
  refine ⟨(List.range len).map q, some a, cap, by simp, ⟨by simpa using hl, hm, (fun hA => by cases hA), fun j c hj => ?_⟩, fun c hc => ?_, by simpa using hlM⟩
  · have hjl : j < len := by have := (List.getElem?_eq_some_iff.mp hj).1; simpa using this
    have hc : c = q j := by simp [hjl] at hj; exact hj.symm
    subst hc
    obtain ⟨cs', hlen, hr, _, hcell⟩ := hq j hjl
    obtain ⟨cs0, hlen0, _, _, hcell0⟩ := hq 0 (by omega)
    have h0 : ∃ u, cs0[0]? = some u := ⟨_, List.getElem?_eq_getElem (by omega)⟩
    obtain ⟨u, hu⟩ := h0
    have hc0 := hcell0 0 u hu
    rw [Nat.zero_mul] at hc0
    have ha0 : ((a.add 0).add 0) = a.add 0 := by unfold Addr.add; simp
    rw [ha0] at hc0
    obtain ⟨b, off, rfl, e⟩ := plain_addr hc0
    refine ⟨b, off, cs', rfl, World.block_lt_of_cell? w _ hc0, hlen, hr, fun i u hu => ?_⟩
    have := hcell i u hu
    rw [Deep.add_add, e] at this
    rw [Nat.add_assoc]
    exact this
  · obtain ⟨j, hj, rfl⟩ := List.mem_map.mp hc
    obtain ⟨_, _, _, ho, _⟩ := hq j (by simpa using hj)
    exact ho

instance : Inhabited Rw := ⟨⟨0, 0, 0, []⟩⟩
section
variable {H : Type} {enc : TypeId × Value → H} {w : World} {base : Nat} {spare : Nat → Bool} {held : Bool}
def mxL : Nat := 140737488351232
theorem ct_int : Tryd.prog.cellsOf 3 = 1 := by kernel_rfl
theorem ct_u64 : Tryd.prog.cellsOf 36 = 1 := by kernel_rfl
theorem ct_str : Tryd.prog.cellsOf 9 = 1 := by kernel_rfl
theorem ct_Rw : Tryd.prog.cellsOf 64 = 4 := by kernel_rfl
theorem ct_Va : Tryd.prog.cellsOf 39 = 3 := by kernel_rfl
theorem ct_Sl : Tryd.prog.cellsOf 42 = 2 := by kernel_rfl
theorem ct_Tr : Tryd.prog.cellsOf 29 = 2 := by kernel_rfl
theorem ct_lTr : Tryd.prog.cellsOf 37 = 1 := by kernel_rfl
theorem ct_lVa : Tryd.prog.cellsOf 40 = 1 := by kernel_rfl
theorem ct_lSl : Tryd.prog.cellsOf 26 = 1 := by kernel_rfl
theorem ct_lRw : Tryd.prog.cellsOf 27 = 1 := by kernel_rfl
theorem bt_Rw : 1 ≤ Tryd.prog.bytesOf 64 := of_decide_eq_true (by kernel_rfl)
theorem bt_Va : 1 ≤ Tryd.prog.bytesOf 39 := of_decide_eq_true (by kernel_rfl)
theorem bt_Sl : 1 ≤ Tryd.prog.bytesOf 42 := of_decide_eq_true (by kernel_rfl)
theorem bt_Tr : 1 ≤ Tryd.prog.bytesOf 29 := of_decide_eq_true (by kernel_rfl)
theorem st_data (s : ByteArray) : s = strOf s.data.toList := by cases s; simp [strOf]
theorem rwt_came (fuel : Nat) : ∀ cs (x : DataW H × List MemPlace), DataW.trod enc Tryd.prog w base spare held fuel 64 cs = some x → (∀ n ∈ x.1.weights Tryd.prog 64, n ≤ mxL) → ∃ v : Rw, rwR w cs v ∧ v.s.length ≤ mxL := by
  intro cs x h hz
  obtain ⟨ys, m, _, rfl, hl, hn, he⟩ := DataW.trod_struct Tryd.underlying64 h
  rw [ct_Rw] at hl
  match cs, hl, ys, hn with
  | [v0, v1, v2, v3], _, [y0, y1, y2, y3], _ =>
    have hw : ∀ n ∈ DataW.weightsEach Tryd.prog [3, 3, 36, 9] [y0.1, y1.1, y2.1, y3.1], n ≤ mxL := by
      intro n hn
      apply hz
      simp only [DataW.weights, Tryd.underlying64]
      exact hn
    have g0 : DataW.trod enc Tryd.prog w base spare held m 3 (([v0, v1, v2, v3].drop 0).take (Tryd.prog.cellsOf 3)) = some y0 := he 0 _ rfl
    have g1 : DataW.trod enc Tryd.prog w base spare held m 3 (([v0, v1, v2, v3].drop 1).take (Tryd.prog.cellsOf 3)) = some y1 := he 1 _ rfl
    have g2 : DataW.trod enc Tryd.prog w base spare held m 36 (([v0, v1, v2, v3].drop 2).take (Tryd.prog.cellsOf 36)) = some y2 := he 2 _ rfl
    have g3 : DataW.trod enc Tryd.prog w base spare held m 9 (([v0, v1, v2, v3].drop 3).take (Tryd.prog.cellsOf 9)) = some y3 := he 3 _ rfl
    have w3 : ∀ n ∈ y3.1.weights Tryd.prog 9, n ≤ mxL := fun n hn => hw n (DataW.weights_mem_each (j := 3) rfl rfl n hn)
    rw [ct_int] at g0 g1
    rw [ct_u64] at g2
    rw [ct_str] at g3
    simp only [List.drop_zero, List.drop_succ_cons, List.take_succ_cons, List.take_zero] at g0 g1 g2 g3
    obtain ⟨n0, q0, _, _⟩ := DataW.trod_int Tryd.underlying3 g0
    obtain ⟨n1, q1, _, _⟩ := DataW.trod_int Tryd.underlying3 g1
    obtain ⟨n2, q2, _, b2⟩ := DataW.trod_int Tryd.underlying36 g2
    obtain ⟨s3, q3, z3, _⟩ := DataW.trod_string Tryd.underlying9 g3
    have b3 : s3.data.toList.length ≤ mxL := by have := w3 s3.data.toList.length; rw [z3] at this; exact this (by simp [DataW.weights])
    obtain ⟨m2, rfl, _⟩ := u64_came b2
    simp only [List.cons.injEq, and_true] at q0 q1 q2 q3
    subst q0 q1 q2 q3
    exact ⟨⟨n0, n1, m2, s3.data.toList⟩, by unfold rwR rawCells; dsimp only; rw [← st_data], b3⟩
/-- What all trees that come in are, whatever their depth. -/
def OkT (x : Tr) : Prop := ∀ m, OkN m x
theorem vat_came (fuel : Nat) (N : Nat) (ih : ∀ n, n < fuel → ∀ cs (x : DataW H × List MemPlace), DataW.trod enc Tryd.prog w base spare held n 29 cs = some x → (∀ n ∈ x.1.weights Tryd.prog 29, n ≤ mxL) → ∃ v : Tr, trR (fun g => g < w.heap.size) N w cs v ∧ OkT v) :
    ∀ cs (x : DataW H × List MemPlace), DataW.trod enc Tryd.prog w base spare held fuel 39 cs = some x → (∀ n ∈ x.1.weights Tryd.prog 39, n ≤ mxL) → ∃ v : Va, vaR (trR (fun g => g < w.heap.size) N) (fun g => g < w.heap.size) w cs v ∧ (v.vs.length ≤ mxL ∧ v.vn < 18446744073709551616) ∧ v.vm.length ≤ mxL ∧ ∀ u ∈ v.vm, OkT u := by
  intro cs x h hz
  obtain ⟨ys, m, hf, rfl, hl, hn, he⟩ := DataW.trod_struct Tryd.underlying39 h
  rw [ct_Va] at hl
  match cs, hl, ys, hn with
  | [v0, v1, v2], _, [y0, y1, y2], _ =>
    have hw : ∀ n ∈ DataW.weightsEach Tryd.prog [36, 9, 37] [y0.1, y1.1, y2.1], n ≤ mxL := by
      intro n hn
      apply hz
      simp only [DataW.weights, Tryd.underlying39]
      exact hn
    have g0 : DataW.trod enc Tryd.prog w base spare held m 36 (([v0, v1, v2].drop 0).take (Tryd.prog.cellsOf 36)) = some y0 := he 0 _ rfl
    have g1 : DataW.trod enc Tryd.prog w base spare held m 9 (([v0, v1, v2].drop 1).take (Tryd.prog.cellsOf 9)) = some y1 := he 1 _ rfl
    have g2 : DataW.trod enc Tryd.prog w base spare held m 37 (([v0, v1, v2].drop 2).take (Tryd.prog.cellsOf 37)) = some y2 := he 2 _ rfl
    have w1 : ∀ n ∈ y1.1.weights Tryd.prog 9, n ≤ mxL := fun n hn => hw n (DataW.weights_mem_each (j := 1) rfl rfl n hn)
    have w2 : ∀ n ∈ y2.1.weights Tryd.prog 37, n ≤ mxL := fun n hn => hw n (DataW.weights_mem_each (j := 2) rfl rfl n hn)
    rw [ct_u64] at g0
    rw [ct_str] at g1
    rw [ct_lTr] at g2
    simp only [List.drop_zero, List.drop_succ_cons, List.take_succ_cons, List.take_zero] at g0 g1 g2
    obtain ⟨n0, q0, _, b0⟩ := DataW.trod_int Tryd.underlying36 g0
    obtain ⟨s1, q1, z1, _⟩ := DataW.trod_string Tryd.underlying9 g1
    have b1 : s1.data.toList.length ≤ mxL := by have := w1 s1.data.toList.length; rw [z1] at this; exact this (by simp [DataW.weights])
    obtain ⟨l2, A2, c2, q2, h2, o2, k2⟩ := lst_came2 (k := 2) (M := mxL) Tryd.underlying37 ct_Tr (by decide) bt_Tr (fun n hn => ih n (by omega)) g2 w2
    obtain ⟨m0, rfl, hm0⟩ := u64_came b0
    simp only [List.cons.injEq, and_true] at q0 q1 q2
    subst q0 q1 q2
    exact ⟨⟨m0, s1.data.toList, l2⟩, ⟨A2, c2, by dsimp only; rw [← st_data], h2⟩, ⟨b1, hm0⟩, k2, o2⟩
theorem slt_came (fuel : Nat) (N : Nat) (ih : ∀ n, n < fuel → ∀ cs (x : DataW H × List MemPlace), DataW.trod enc Tryd.prog w base spare held n 29 cs = some x → (∀ n ∈ x.1.weights Tryd.prog 29, n ≤ mxL) → ∃ v : Tr, trR (fun g => g < w.heap.size) N w cs v ∧ OkT v) :
    ∀ cs (x : DataW H × List MemPlace), DataW.trod enc Tryd.prog w base spare held fuel 42 cs = some x → (∀ n ∈ x.1.weights Tryd.prog 42, n ≤ mxL) → ∃ v : Slt, slR (trR (fun g => g < w.heap.size) N) (fun g => g < w.heap.size) w cs v ∧ v.svals.length ≤ mxL ∧ ∀ u ∈ v.svals, (u.vs.length ≤ mxL ∧ u.vn < 18446744073709551616) ∧ u.vm.length ≤ mxL ∧ ∀ t ∈ u.vm, OkT t := by
  intro cs x h hz
  obtain ⟨ys, m, hf, rfl, hl, hn, he⟩ := DataW.trod_struct Tryd.underlying42 h
  rw [ct_Sl] at hl
  match cs, hl, ys, hn with
  | [v0, v1], _, [y0, y1], _ =>
    have hw : ∀ n ∈ DataW.weightsEach Tryd.prog [3, 40] [y0.1, y1.1], n ≤ mxL := by
      intro n hn
      apply hz
      simp only [DataW.weights, Tryd.underlying42]
      exact hn
    have g0 : DataW.trod enc Tryd.prog w base spare held m 3 (([v0, v1].drop 0).take (Tryd.prog.cellsOf 3)) = some y0 := he 0 _ rfl
    have g1 : DataW.trod enc Tryd.prog w base spare held m 40 (([v0, v1].drop 1).take (Tryd.prog.cellsOf 40)) = some y1 := he 1 _ rfl
    have w1 : ∀ n ∈ y1.1.weights Tryd.prog 40, n ≤ mxL := fun n hn => hw n (DataW.weights_mem_each (j := 1) rfl rfl n hn)
    rw [ct_int] at g0
    rw [ct_lVa] at g1
    simp only [List.drop_zero, List.drop_succ_cons, List.take_succ_cons, List.take_zero] at g0 g1
    obtain ⟨n0, q0, _, _⟩ := DataW.trod_int Tryd.underlying3 g0
    obtain ⟨l1, A1, c1, q1, h1, o1, k1⟩ := lst_came2 (k := 3) (M := mxL) Tryd.underlying40 ct_Va (by decide) bt_Va (fun n hn => vat_came n N (fun q hq => ih q (by omega))) g1 w1
    simp only [List.cons.injEq, and_true] at q0 q1
    subst q0 q1
    exact ⟨⟨n0, l1⟩, ⟨A1, c1, rfl, h1⟩, k1, o1⟩
theorem tr_came : ∀ (fuel : Nat) cs (x : DataW H × List MemPlace), DataW.trod enc Tryd.prog w base spare held fuel 29 cs = some x → (∀ n ∈ x.1.weights Tryd.prog 29, n ≤ mxL) → ∃ v : Tr, trR (fun g => g < w.heap.size) fuel w cs v ∧ OkT v := by
  intro fuel
  induction fuel using Nat.strongRecOn with
  | ind fuel ih =>
    intro cs x h hz
    obtain ⟨ys, m, hf, rfl, hl, hn, he⟩ := DataW.trod_struct Tryd.underlying29 h
    subst hf
    rw [ct_Tr] at hl
    match cs, hl, ys, hn with
    | [v0, v1], _, [y0, y1], _ =>
      have hw : ∀ n ∈ DataW.weightsEach Tryd.prog [26, 27] [y0.1, y1.1], n ≤ mxL := by
        intro n hn
        apply hz
        simp only [DataW.weights, Tryd.underlying29]
        exact hn
      have g0 : DataW.trod enc Tryd.prog w base spare held m 26 (([v0, v1].drop 0).take (Tryd.prog.cellsOf 26)) = some y0 := he 0 _ rfl
      have g1 : DataW.trod enc Tryd.prog w base spare held m 27 (([v0, v1].drop 1).take (Tryd.prog.cellsOf 27)) = some y1 := he 1 _ rfl
      have w0 : ∀ n ∈ y0.1.weights Tryd.prog 26, n ≤ mxL := fun n hn => hw n (DataW.weights_mem_each (j := 0) rfl rfl n hn)
      have w1 : ∀ n ∈ y1.1.weights Tryd.prog 27, n ≤ mxL := fun n hn => hw n (DataW.weights_mem_each (j := 1) rfl rfl n hn)
      rw [ct_lSl] at g0
      rw [ct_lRw] at g1
      simp only [List.drop_zero, List.drop_succ_cons, List.take_succ_cons, List.take_zero] at g0 g1
      have ih2 : ∀ n, n < m → ∀ cs (x : DataW H × List MemPlace), DataW.trod enc Tryd.prog w base spare held n 29 cs = some x → (∀ n ∈ x.1.weights Tryd.prog 29, n ≤ mxL) → ∃ v : Tr, trR (fun g => g < w.heap.size) m w cs v ∧ OkT v := fun q hq cs x h hz =>
        (ih q (by omega) cs x h hz).elim fun v hv => ⟨v, trR_le (by omega) _ _ hv.1, hv.2⟩
      obtain ⟨l0, A0, c0, q0, h0, o0, k0⟩ := lst_came2 (k := 2) (M := mxL) Tryd.underlying26 ct_Sl (by decide) bt_Sl (fun n hn => slt_came n m (fun q hq => ih2 q (by omega))) g0 w0
      obtain ⟨l1, A1, c1, q1, h1, o1, k1⟩ := lst_came2 (k := 4) (M := mxL) Tryd.underlying27 ct_Rw (by decide) bt_Rw (fun n _ => rwt_came n) g1 w1
      simp only [List.cons.injEq, and_true] at q0 q1
      subst q0 q1
      refine ⟨.mk l0 l1, ⟨A0, l0.length, c0, A1, l1.length, c1, rfl, h0, h1, rfl, rfl⟩, fun k => ?_⟩
      cases k with
      | zero => trivial
      | succ k => exact ⟨k0, k1, o1, fun s hs => ⟨(o0 s hs).1, fun v hv => ⟨((o0 s hs).2 v hv).1, ((o0 s hs).2 v hv).2.1, fun u hu => ((o0 s hs).2 v hv).2.2 u hu k⟩⟩⟩
end
end Go.Proofs.YtmdekdmcnnbofaaDoor

/- A tree, and a value, that came in by value. Conditions: those that each theorem names. -/
namespace Go.Proofs.YtmdekdmcnnbofaaDoor
open Go.RowKit
set_option linter.unusedVariables false
set_option maxRecDepth 100000

theorem tree_came {H : Type} {enc : TypeId × Value → H} {w : World} {base : Nat} {spare : Nat → Bool} {held : Bool} {fuel : Nat} {cs : List Value} {x : DataW H × List MemPlace} (h : DataW.trod enc Tryd.prog w base spare held fuel 29 cs = some x) (hz : ∀ n ∈ x.1.weights Tryd.prog 29, n ≤ mxL) :
    ∃ (t : Tr) (n : Nat) (A : Option Addr) (na ca : Nat) (B : Option Addr) (nb cb : Nat), cs = [.slice A na ca, .slice B nb cb] ∧ TrAt (fun g => g < w.heap.size) n w A na ca B nb cb t ∧ OkT t := by
  obtain ⟨t, ht, ho⟩ := tr_came fuel cs x h hz
  match fuel, ht with
  | n + 1, ⟨A, na, ca, B, nb, cb, e, h⟩ => exact ⟨t, n, A, na, ca, B, nb, cb, e, h, ho⟩
theorem val_came {H : Type} {enc : TypeId × Value → H} {w : World} {base : Nat} {spare : Nat → Bool} {held : Bool} {fuel : Nat} {cs : List Value} {x : DataW H × List MemPlace} (h : DataW.trod enc Tryd.prog w base spare held fuel 39 cs = some x) (hz : ∀ n ∈ x.1.weights Tryd.prog 39, n ≤ mxL) :
    ∃ (v : Va) (n : Nat) (A : Option Addr) (cap : Nat), cs = [.int .u64 (v.vn : Int), .string (strOf v.vs), .slice A v.vm.length cap] ∧ KsAt (fun g => g < w.heap.size) n w A cap v.vm ∧ (v.vs.length ≤ mxL ∧ v.vn < 18446744073709551616) ∧ v.vm.length ≤ mxL ∧ ∀ u ∈ v.vm, OkT u := by
  obtain ⟨v, ⟨A, cap, e, hk⟩, h1, h2, h3⟩ := vat_came fuel fuel (fun q hq cs x h hz => (tr_came q cs x h hz).elim fun v hv => ⟨v, trR_le (by omega) _ _ hv.1, hv.2⟩) cs x h hz
  exact ⟨v, fuel, A, cap, e, hk, h1, h2, h3⟩
end Go.Proofs.YtmdekdmcnnbofaaDoor

/- What came in by value as a field. Conditions: those that each theorem names. -/
namespace Go.Proofs.YtmdekdmcnnbofaaDoor
open Go.RowKit Go.ChangeShapes Go.WideShapes
set_option linter.unusedVariables false
set_option maxRecDepth 100000

theorem cells_fd : Tryd.prog.cellsOf 35 = 7 := by kernel_rfl
theorem cells_fdb : Tryd.prog.cellsOf 4 = 1 := by kernel_rfl
theorem cells_fds : Tryd.prog.cellsOf 9 = 1 := by kernel_rfl
theorem cells_fdi : Tryd.prog.cellsOf 3 = 1 := by kernel_rfl
theorem str_of_data (s : ByteArray) : s = strOf s.data.toList := by cases s; simp [strOf]
theorem field_came {H : Type} {enc : TypeId × Value → H} {w : World} {base : Nat} {spare : Nat → Bool} {held : Bool} {xs : Array Value} {d : DataW H} {p : List MemPlace}
    (h : DataW.Trod enc Tryd.prog w base spare held 35 (.agg xs) d p) : ∃ f : Fd, Value.agg xs = fdV f ∧ d = fdD f ∧ Int64 f.num ∧ Int64 f.ty := by
  obtain ⟨fuel, hf⟩ := h
  have hcs : (Value.agg xs).cells.toList = xs.toList := rfl
  rw [hcs] at hf
  obtain ⟨ys, m, rfl, ex, hl, hn, he⟩ := DataW.trod_struct Tryd.underlying35 hf
  rw [cells_fd] at hl
  obtain ⟨l⟩ := xs
  match l, hl, ys, hn with
  | [v0, v1, v2, v3, v4, v5, v6], _, [y0, y1, y2, y3, y4, y5, y6], _ =>
    have g0 : DataW.trod enc Tryd.prog w base spare held m 9 (([v0, v1, v2, v3, v4, v5, v6].drop 0).take (Tryd.prog.cellsOf 9)) = some y0 := he 0 _ rfl
    have g1 : DataW.trod enc Tryd.prog w base spare held m 3 (([v0, v1, v2, v3, v4, v5, v6].drop 1).take (Tryd.prog.cellsOf 3)) = some y1 := he 1 _ rfl
    have g2 : DataW.trod enc Tryd.prog w base spare held m 3 (([v0, v1, v2, v3, v4, v5, v6].drop 2).take (Tryd.prog.cellsOf 3)) = some y2 := he 2 _ rfl
    have g3 : DataW.trod enc Tryd.prog w base spare held m 9 (([v0, v1, v2, v3, v4, v5, v6].drop 3).take (Tryd.prog.cellsOf 9)) = some y3 := he 3 _ rfl
    have g4 : DataW.trod enc Tryd.prog w base spare held m 4 (([v0, v1, v2, v3, v4, v5, v6].drop 4).take (Tryd.prog.cellsOf 4)) = some y4 := he 4 _ rfl
    have g5 : DataW.trod enc Tryd.prog w base spare held m 4 (([v0, v1, v2, v3, v4, v5, v6].drop 5).take (Tryd.prog.cellsOf 4)) = some y5 := he 5 _ rfl
    have g6 : DataW.trod enc Tryd.prog w base spare held m 9 (([v0, v1, v2, v3, v4, v5, v6].drop 6).take (Tryd.prog.cellsOf 9)) = some y6 := he 6 _ rfl
    rw [cells_fds] at g0 g3 g6
    rw [cells_fdi] at g1 g2
    rw [cells_fdb] at g4 g5
    simp only [List.drop_zero, List.drop_succ_cons, List.take_succ_cons, List.take_zero] at g0 g1 g2 g3 g4 g5 g6
    obtain ⟨s0, q0, z0, _⟩ := DataW.trod_string Tryd.underlying9 g0
    obtain ⟨n1, q1, z1, w1⟩ := DataW.trod_int Tryd.underlying3 g1
    obtain ⟨n2, q2, z2, w2⟩ := DataW.trod_int Tryd.underlying3 g2
    obtain ⟨s3, q3, z3, _⟩ := DataW.trod_string Tryd.underlying9 g3
    obtain ⟨b4, q4, z4⟩ := DataW.trod_bool Tryd.underlying4 g4
    obtain ⟨b5, q5, z5⟩ := DataW.trod_bool Tryd.underlying4 g5
    obtain ⟨s6, q6, z6, _⟩ := DataW.trod_string Tryd.underlying9 g6
    simp at q0 q1 q2 q3 q4 q5 q6
    subst q0 q1 q2 q3 q4 q5 q6
    refine ⟨⟨s0.data.toList, n1, n2, s3.data.toList, b4, b5, s6.data.toList⟩, ?_, ?_, i64_came w1, i64_came w2⟩
    · unfold fdV
      rw [← str_of_data, ← str_of_data, ← str_of_data]
    · have e := congrArg Prod.fst ex
      simp only [List.map_cons, List.map_nil, z0, z1, z2, z3, z4, z5, z6] at e
      exact e
theorem field_sized {H : Type} {ts : List TypeId} {ds : List (DataW H)} {j : Nat} {f : Fd} (h : (DataW.weightsEach Tryd.prog ts ds).all (· ≤ reachBytes) = true) (ht : ts[j]? = some 35) (hd : ds[j]? = some (fdD f)) :
    f.name.length ≤ reachBytes ∧ f.ref.length ≤ reachBytes ∧ f.one.length ≤ reachBytes := by
  have hm := DataW.weights_mem_each (P := Tryd.prog) ht hd
  have hall : ∀ n ∈ DataW.weightsEach Tryd.prog ts ds, n ≤ reachBytes := fun n hn => by simpa using List.all_eq_true.1 h n hn
  have hw : (fdD f : DataW H).weights Tryd.prog 35 = [f.name.length, f.ref.length, f.one.length] := by
    unfold fdD
    simp only [DataW.weights, Tryd.underlying35]
    rfl
  rw [hw] at hm
  exact ⟨hall _ (hm _ (by simp)), hall _ (hm _ (by simp)), hall _ (hm _ (by simp))⟩
end Go.Proofs.YtmdekdmcnnbofaaDoor
