/- Several texts in one: FxF, FxG, FxH. What each proves, and its conditions, stands at its own head. -/
import Derived.Test.YtmajhjkibmbikaaPkK23
import Derived.Test.YtmajhjkibmbikaaPkK15
import Derived.Maps.OwnSet
import Derived.Maps.OwnIn
/- The program's layer 16: the place of the first message of each name, as a map. Conditions: those that each theorem names. -/
namespace Go.Proofs.Ytmajhjkibmbikaa
open Go.RowKit Go.Shelf Go.Maps Go.WideMaps Go.WideShapes
set_option linter.unusedVariables false
set_option maxRecDepth 100000
attribute [local go_sem] Oper.semAt_some

/-- What a map from names to numbers holds. -/
def MapIs (D : DataW Unit) (f : List UInt8 → Option Int) : Prop := IsMap D ∧ ∀ t, Maps.has D (.string t) = (f t).isSome ∧ ∀ z x, f t = some x → D.atKey (.string t) z = .lit (.int .i64 x)
theorem lit_ne {t u : List UInt8} (h : u ≠ t) : (Lit.string u) ≠ .string t := fun e => h (by injection e)
theorem mapIs_empty : MapIs (.map []) (fun _ => none) := ⟨isMap_empty, fun t => ⟨rfl, fun z x h => by cases h⟩⟩
theorem mapIs_put {D : DataW Unit} {f : List UInt8 → Option Int} (h : MapIs D f) (t : List UInt8) (x : Int) : MapIs (D.put (.string t) (.lit (.int .i64 x))) (fun u => if u = t then some x else f u) := by
  refine ⟨h.1.put _ _, fun u => ?_⟩
  dsimp only
  by_cases hu : u = t
  · subst hu
    rw [if_pos rfl]
    exact ⟨has_put_same h.1 (show WideAt.IsKeyLit (.string u) from trivial) _, fun z y hy => by cases hy; exact atKey_put_same h.1 (show WideAt.IsKeyLit (.string u) from trivial) _ _⟩
  · rw [if_neg hu]
    exact ⟨(has_put_other (lit_ne hu) _).trans (h.2 u).1, fun z y hy => (atKey_put_other (lit_ne hu) _ _).trans ((h.2 u).2 z y hy)⟩
theorem mapIs_del {D : DataW Unit} {f : List UInt8 → Option Int} (h : MapIs D f) (t : List UInt8) : MapIs (D.del (.string t)) (fun u => if u = t then none else f u) := by
  refine ⟨h.1.del _, fun u => ?_⟩
  dsimp only
  by_cases hu : u = t
  · subst hu
    rw [if_pos rfl]
    exact ⟨has_del_same, fun z y hy => by cases hy⟩
  · rw [if_neg hu]
    exact ⟨(has_del_other (lit_ne hu)).trans (h.2 u).1, fun z y hy => (atKey_del_other (lit_ne hu) _).trans ((h.2 u).2 z y hy)⟩
theorem mapIs_none {D : DataW Unit} {f : List UInt8 → Option Int} (h : MapIs D f) (h0 : Maps.size D = 0) (t : List UInt8) : f t = none := by
  obtain ⟨⟨es, rfl⟩, h2⟩ := h
  rw [size_eq] at h0
  have e := (h2 t).1
  rw [has_eq, List.eq_nil_of_length_eq_zero h0] at e
  cases hf : f t with
  | none => rfl
  | some x => rw [hf] at e; cases e
theorem mapIs_congr {D : DataW Unit} {f g : List UInt8 → Option Int} (h : MapIs D f) (e : ∀ t, f t = g t) : MapIs D g := ⟨h.1, fun t => by rw [← e t]; exact h.2 t⟩

/-- The first place from j on. -/
def firstFrom (l : List (List UInt8)) (j : Nat) (t : List UInt8) : Option Int := if t ∈ l.drop j then some (((j + (l.drop j).findIdx (fun x => decide (x = t)) : Nat) : Int)) else none
theorem firstFrom_end {l : List (List UInt8)} {j : Nat} (h : l.length ≤ j) (t : List UInt8) : firstFrom l j t = none := by
  unfold firstFrom
  rw [List.drop_of_length_le h]
  simp
theorem firstFrom_step {l : List (List UInt8)} {j : Nat} {a : List UInt8} (h : l[j]? = some a) (t : List UInt8) : firstFrom l j t = if t = a then some (j : Int) else firstFrom l (j + 1) t := by
  obtain ⟨hj, ha⟩ := List.getElem?_eq_some_iff.mp h
  unfold firstFrom
  rw [List.drop_eq_getElem_cons hj, ha]
  by_cases e : t = a
  · subst e
    simp [List.findIdx_cons]
  · rw [if_neg e]
    have e2 : decide (a = t) = false := decide_eq_false (fun h => e h.symm)
    simp only [List.mem_cons, e, false_or, List.findIdx_cons, e2, cond_false]
    split <;> simp
    omega
theorem firstFrom_zero (l : List (List UInt8)) (t : List UInt8) : firstFrom l 0 t = if t ∈ l then some (placeT l t) else none := by
  unfold firstFrom placeT
  rw [List.drop_zero]
  split <;> simp

/-- A message's three cells; q: where its lists lie. -/
abbrev MsPl := Nat → Option Addr × Nat × Option Addr × Nat
def msC (x : Ms) (q : Option Addr × Nat × Option Addr × Nat) : List Value := [.string (strOf x.name), .slice q.1 x.fields.length q.2.1, .slice q.2.2.1 x.barred.length q.2.2.2]
structure MsQ (S : Nat → Nat → Prop) (w0 : World) (A : Option Addr) (l : List Ms) (Q : MsPl) : Prop where
  q_at : ∀ (i : Nat) x, l[i]? = some x → ∃ g off, A = some ⟨g, off, none⟩ ∧ ∀ W, KeepS S w0 W → W.cell? ⟨g, off + i * 3, none⟩ = some (.string (strOf x.name)) ∧ W.cell? ⟨g, off + i * 3 + 1, none⟩ = some (.slice (Q i).1 x.fields.length (Q i).2.1) ∧ W.cell? ⟨g, off + i * 3 + 2, none⟩ = some (.slice (Q i).2.2.1 x.barred.length (Q i).2.2.2)
  q_f : ∀ (i : Nat) x, l[i]? = some x → Lst 7 (S 1) fdR w0 (Q i).1 (Q i).2.1 x.fields
  q_b : ∀ (i : Nat) x, l[i]? = some x → Lst 1 (S 2) inR w0 (Q i).2.2.1 (Q i).2.2.2 x.barred
theorem msQ_of {S : Nat → Nat → Prop} {w0 : World} {A : Option Addr} {cap : Nat} {l : List Ms} (h : Lst 3 (S 4) (msR S) w0 A cap l) : ∃ Q, MsQ S w0 A l Q := by
  have h1 : ∀ i : Nat, ∃ q : Option Addr × Nat × Option Addr × Nat, ∀ x, l[i]? = some x → (∃ g off, A = some ⟨g, off, none⟩ ∧ ∀ W, KeepS S w0 W → W.cell? ⟨g, off + i * 3, none⟩ = some (.string (strOf x.name)) ∧ W.cell? ⟨g, off + i * 3 + 1, none⟩ = some (.slice q.1 x.fields.length q.2.1) ∧ W.cell? ⟨g, off + i * 3 + 2, none⟩ = some (.slice q.2.2.1 x.barred.length q.2.2.2)) ∧ Lst 7 (S 1) fdR w0 q.1 q.2.1 x.fields ∧ Lst 1 (S 2) inR w0 q.2.2.1 q.2.2.2 x.barred := by
    intro i
    cases hx : l[i]? with
    | none => exact ⟨(none, 0, none, 0), fun x h => by cases h⟩
    | some x =>
      obtain ⟨g, off, A1, c1, A2, c2, e, hc, hl, hl2⟩ := ms_held h hx
      exact ⟨(A1, c1, A2, c2), fun y hy => by cases hy; exact ⟨⟨g, off, e, hc⟩, hl, hl2⟩⟩
  obtain ⟨Q, hQ⟩ := Classical.axiomOfChoice h1
  exact ⟨Q, fun i x hx => (hQ i x hx).1, fun i x hx => (hQ i x hx).2.1, fun i x hx => (hQ i x hx).2.2⟩

theorem backms_any (A : Option Addr) (n cap : Nat) (w : World) :
    Calls Try.prog 68 #[.slice A n cap] w fun e w' => e = .returned (.func (.func 70) #[] #[.pointer (some ⟨w.heap.size, 0, none⟩)]) ∧ w' = w.alloc (.cells #[.slice A n cap] 23) := by
  go_enter Try.func68, Try.ntmps68
  go_wp2
  go_ret
  exact ⟨rfl, rfl⟩
/-- What is yielded in round k: from behind. -/
def bkVals (l : List Ms) (Q : MsPl) (k : Nat) : Option (Array Value) := if k < l.length then (l[l.length - 1 - k]?).map fun x => #[.int .i64 ((l.length - 1 - k : Nat) : Int), .agg (msC x (Q (l.length - 1 - k))).toArray] else none

set_option maxHeartbeats 4000000 in
theorem backms_seq {S : Nat → Nat → Prop} (w0 : World) (b : Nat) {A : Option Addr} {cap n : Nat} {l : List Ms} {Q : MsPl} (hL : MsQ S w0 A l Q) (hn : n = l.length) (hc : n ≤ cap) (hm : cap ≤ 9223372036854775807) :
    SeqS Try.prog 70 #[.pointer (some ⟨b, 0, none⟩)] (bkVals l Q) (fun i j => j = i + 1) 0 (fun _ W => RefR S w0 b A n cap W) := by
  intro nn ly J X W hR hB hY h0
  have HL := Lib.hid hL
  have HN := Lib.hid hn
  have HR := Lib.hid hR
  have HY := Lib.hid hY
  have r0 := obj_cell (HR.out 0 W h0).2 0
  have H0 := Lib.hid h0
  clear hL hn hR hB hY h0
  refine callsIn_of_wp Try.func70 rfl trivial ?_ rfl
  simp only [Try.ntmps70, List.size_toArray, List.length_cons, List.length_nil, Nat.reduceAdd, Nat.reduceSub, Array.replicate_succ, Array.replicate_zero, List.push_toArray, List.append_toArray, List.nil_append, List.cons_append]
  gi_wp2
  clear r0
  gi_loopw [3] (fun i wr => ∃ k r : Nat, k + r = n ∧ i = .int .i64 ((r : Int) - 1) ∧ J k wr) (fun i _ => (intOf i + 1).toNat)
  case atStart => exact ⟨0, n, by omega, rfl, H0.out⟩
  case round =>
    obtain ⟨k, r, hk, rfl, hJ⟩ := hrel
    have HJ := Lib.hid hJ
    clear hJ
    cases r with
    | zero =>
      gi_wp2
      go_end0
      exact ⟨⟨_, rfl⟩, .inl ⟨k, by unfold bkVals; rw [if_neg (by have := HN.out; omega)], HJ.out⟩⟩
    | succ r =>
      rw [show ((r + 1 : Nat) : Int) - 1 = (r : Int) by omega]
      have hrr : l.length - 1 - k = r := by have := HN.out; omega
      obtain ⟨x, hx⟩ : ∃ x, l[r]? = some x := ⟨_, List.getElem?_eq_getElem (by have := HN.out; omega)⟩
      have hv : bkVals l Q k = some #[.int .i64 (r : Int), .agg (msC x (Q r)).toArray] := by
        unfold bkVals
        rw [if_pos (by have := HN.out; omega), hrr, hx]
        rfl
      obtain ⟨fn, tmps, assign, body, hy, hRR⟩ := HY.out k _ wr hv HJ.out
      obtain ⟨ge, oe, rfl, hcl⟩ := HL.out.q_at r x hx
      obtain ⟨c0, c1, c2⟩ := hcl _ (HR.out _ _ HJ.out).1
      have r0 := obj_cell (HR.out k wr HJ.out).2 0
      unfold msC at hy
      generalize (Q r).1 = A1 at *
      generalize (Q r).2.1 = k1 at *
      generalize (Q r).2.2.1 = A2 at *
      generalize (Q r).2.2.2 = k2 at *
      generalize strOf x.name = sn at *
      generalize x.fields.length = nf at *
      generalize x.barred.length = nb at *
      clear hcl hx hv hrr
      gi_wp2
      refine ⟨fun hd => by simp [Fence.wide] at hd, hRR.mono ?_⟩
      rintro e W3 (⟨rfl, s', rfl, hJ3⟩ | ⟨rfl, hX⟩)
      · have HJ3 := Lib.hid hJ3
        clear hJ3 hRR hy
        gi_wp2
        go_roundw
        case rel => exact ⟨k + 1, r, by omega, by go_num, HJ3.out⟩
        case measure => simp [intOf]
      · have HX3 := Lib.hid hX
        clear hX hRR hy
        gi_wp2
        refine ⟨rfl, _, results_none rfl _ _ _, ?_⟩
        exact ⟨⟨_, rfl⟩, .inr HX3.out⟩

theorem zero_int (w : World) : (zeroValue 3).run Try.prog w = .ok (.int .i64 0) w := by kernel_rfl
theorem str_keyed : Keyed Try.prog 9 := string_keyed Try.underlying9
theorem str_key {t : List UInt8} (h : t.length ≤ 140737488351232) : keyOf Try.prog 9 (.string (strOf t)) = some (.string t) := by
  have h1 : (strOf t).size = t.length := str_size t
  have := keyOf_string_mk (P := Try.prog) (k := 9) (s := strOf t) Try.underlying9 (by rw [h1]; unfold maxLen; omega)
  rw [this]
  simp [strOf]

/-- The map in block bm holds f. -/
def MapAt (w : World) (bm n : Nat) (f : List UInt8 → Option Int) : Prop := ∃ D : DataW Unit, w.ownsMap Try.prog 9 (plainElem Try.prog 3) bm n D ∧ MapIs D f
theorem MapAt.kept {w w' : World} {bm n : Nat} {f : List UInt8 → Option Int} {row : Option Nat} (h : MapAt w bm n f) (hg : w.grownBy w' row) (hne : some bm ≠ row) : MapAt w' bm n f := by
  obtain ⟨D, h1, h2⟩ := h
  exact ⟨D, h1.kept hg hne, h2⟩
theorem MapAt.lt {w : World} {bm n : Nat} {f : List UInt8 → Option Int} (h : MapAt w bm n f) : bm < w.heap.size := by
  obtain ⟨D, h1, h2⟩ := h
  exact h1.lt
theorem MapAt.bel {w w' : World} {bm n : Nat} {f : List UInt8 → Option Int} (h : MapAt w bm n f) (hb : Below w.heap.size w w') : MapAt w' bm n f :=
  h.kept (row := none) ⟨hb.os, hb.tape, hb.output, hb.size, fun i hi _ => hb.block i hi⟩ (by simp)

set_option maxHeartbeats 8000000 in
theorem firsts_any {S : Nat → Nat → Prop} (w : World) {A : Option Addr} {cap n : Nat} {l : List Ms} (hL : Lst 3 (S 4) (msR S) w A cap l) (hn : n = l.length) (h200 : n ≤ 200) (hln : ∀ m ∈ l, m.name.length ≤ 100000) :
    Calls Try.prog 61 #[.slice A n cap] w fun e w' => e = .returned (.map (some w.heap.size)) ∧ MapAt w' w.heap.size n (fun t => if t ∈ l.map Ms.name then some (placeT (l.map Ms.name) t) else none) ∧ Below w.heap.size w w' := by
  obtain ⟨Q, hQ⟩ := msQ_of hL
  have q1 := hL.l_le
  have q2 := hL.l_max
  rw [← hn] at q1
  unfold maxLen at q2
  obtain ⟨w2, hw2⟩ : ∃ w2, w2 = (w.alloc (.map #[] 0)).alloc (.cells #[.map (some w.heap.size)] 74) := ⟨_, rfl⟩
  have hs2 : w2.heap.size = w.heap.size + 2 := by rw [hw2]; simp
  have hb2 : Below w.heap.size w w2 := by rw [hw2]; exact ((Below.refl _ w).alloc (Nat.le_refl _) _).alloc (by simp) _
  have HSQ := Lib.hid (backms_seq (n := n) (cap := cap) w w2.heap.size hQ hn q1 (by omega))
  have hk : w2.heap[w.heap.size + 1]? = some (.cells #[.map (some w.heap.size)] 74 (0, 0)) := by rw [hw2]; have := heap_alloc_new (w.alloc (.map #[] 0)) (.cells #[.map (some w.heap.size)] 74); rwa [World.size_alloc] at this
  have hm0 : MapAt w2 w.heap.size 0 (fun _ => none) := by rw [hw2]; exact ⟨_, (World.ownsMap_made w _ _ _).alloc _, mapIs_empty⟩
  have HM0 := Lib.hid hm0
  have HK := Lib.hid hk
  have HS2 := Lib.hid hs2
  have HB2 := Lib.hid hb2
  have HW2 := Lib.hid hw2
  have HN := Lib.hid hn
  have HLN := Lib.hid hln
  have HLL := Lib.hid hL
  have hmm := @run_makeMap Try.prog
  clear hL hn hln hQ q1 q2 hw2 hs2 hb2 hk hm0
  refine callsIn_wide.1 (callsIn_of_wp_marks (n := 9) Try.func61 rfl trivial ?_ rfl)
  simp only [Try.ntmps61, List.size_toArray, List.length_cons, List.length_nil, Nat.reduceAdd, Nat.reduceSub, Array.replicate_succ, Array.replicate_zero, List.push_toArray, List.append_toArray, List.nil_append, List.cons_append]
  refine wpIn_wide.2 ?_
  go_wp2_with (go_at_call 68; (with_reducible rw [← HW2.out]); refine (backms_any _ _ _ _).mono ?_; rintro e w4 ⟨rfl, hw4⟩; have HW4 := Lib.hid hw4; clear hw4)
  have hb24 : Below w2.heap.size w2 w4 := by rw [HW4.out]; exact (Below.refl _ _).alloc (Nat.le_refl _) _
  have hbx : w4.heap[w2.heap.size]? = some (.cells #[.slice A n cap] 23 (0, 0)) := by rw [HW4.out]; exact heap_alloc_new _ _
  have hs4 : w4.heap.size = w.heap.size + 3 := by rw [HW4.out, World.size_alloc, HS2.out]
  have B24 := Lib.hid hb24
  have HBX := Lib.hid hbx
  have HS4 := Lib.hid hs4
  clear hb24 hbx hs4 HW4 hmm
  refine wpIn_wide.1 (wpIn_rangeS (n := 9) (gf := 70) (lb := #[.pointer (some ⟨w2.heap.size, 0, none⟩)]) rfl (enters_of Try.func70 (by kernel_rfl) rfl)
    HSQ.out ?hps 0 (fun k W => k ≤ n ∧ Touch (fun i => i = w.heap.size) w4 W ∧ MapAt W w.heap.size k (firstFrom (l.map Ms.name) (n - k)))
    (fun _ => False) ?hI (fun _ _ h => h.elim) ?hB ?hR ?h0 ?hround ?hdone (fun _ h => h.elim))
  case hps =>
    intro k v hv
    unfold bkVals at hv
    split at hv
    · cases hr : l[l.length - 1 - k]? with
      | none => rw [hr] at hv; cases hv
      | some r => rw [hr] at hv; cases hv; rfl
    · cases hv
  case hI =>
    rintro k W W' ⟨h0, h1, h2⟩ hg
    have e := HS4.out
    exact ⟨h0, h1.grown hg (fun i hi => by cases hi; exact .inr (by omega)), h2.kept hg (fun hh => by have := Option.some.inj hh; omega)⟩
  case hB =>
    rintro k W W' ⟨h0, h1, h2⟩ hb
    exact ⟨h0, h1.then_below hb, h2.bel hb⟩
  case hR =>
    rintro k W ⟨_, h1, h2⟩
    have e := HS2.out
    have e4 := HS4.out
    refine ⟨fun j p v hs hc => ?_, (h1.block _ (by omega) (by omega)).trans HBX.out⟩
    have hp := World.block_lt_of_cell? w _ hc
    exact (h1.cell (p := p) (by omega) (by omega)).trans (cell_under (HB2.out.trans (B24.out.mono HB2.out.size)) hc)
  case h0 =>
    exact ⟨Nat.zero_le _, Touch.refl _ _, by
      obtain ⟨D, h1, h2⟩ := HM0.out.bel B24.out
      exact ⟨D, h1, mapIs_congr h2 (fun t => (firstFrom_end (by rw [List.length_map]; have := HN.out; omega) t).symm)⟩⟩
  case hround =>
    rintro k v W hv ⟨h0, h1, h2⟩ hlt
    rw [HS4.out] at hlt ⊢
    have hkn : k < l.length := by
      unfold bkVals at hv
      split at hv
      · assumption
      · cases hv
    obtain ⟨x, hx⟩ : ∃ x, l[l.length - 1 - k]? = some x := ⟨_, List.getElem?_eq_getElem (by omega)⟩
    have hv2 : v = #[.int .i64 ((l.length - 1 - k : Nat) : Int), .agg (msC x (Q (l.length - 1 - k))).toArray] := by unfold bkVals at hv; rw [if_pos hkn, hx] at hv; cases hv; rfl
    subst hv2
    obtain ⟨j, hj⟩ : ∃ j, j = l.length - 1 - k := ⟨_, rfl⟩
    rw [← hj] at hx ⊢
    have hjn : n - k = j + 1 := by have := HN.out; omega
    have hjn2 : n - (k + 1) = j := by have := HN.out; omega
    rw [hjn] at h2
    have HST := Lib.hid (firstFrom_step (l := l.map Ms.name) (j := j) (a := x.name) (by rw [List.getElem?_map, hx]; rfl))
    have hnm := HLN.out x (List.mem_of_getElem? hx)
    have HKEY := Lib.hid (str_key (t := x.name) (by omega))
    obtain ⟨D, ho, hD⟩ := h2
    have HOW := Lib.hid ho
    have HMD := Lib.hid hD
    have HT := Lib.hid h1
    have HJN := Lib.hid hjn2
    have hkn2 : k + 1 ≤ n := by have := HN.out; omega
    have hj200 : j < 200 := by have := HN.out; omega
    unfold msC
    generalize (Q j).1 = A1 at *
    generalize (Q j).2.1 = k1 at *
    generalize (Q j).2.2.1 = A2 at *
    generalize (Q j).2.2.2 = k2 at *
    generalize x.fields.length = nf at *
    generalize x.barred.length = nb at *
    generalize hxn : x.name = nm at *
    obtain ⟨sn, hsn⟩ : ∃ sn, sn = strOf nm := ⟨_, rfl⟩
    rw [← hsn] at HKEY ⊢
    clear ho hD h1 hv hx hj hjn hjn2 hkn hxn hsn h0
    gi_wp2
    refine ⟨⟨Below.heap_alloc _ _ _ (by omega), Below.heap_alloc _ _ _ (by omega), by simp⟩, ?_⟩
    intro W2 hg hL hsz
    have hT2 := (HT.out.alloc (.cells #[.string sn, .slice A1 nf k1, .slice A2 nb k2] 32)).grown hg (fun i hi => by cases hi; exact .inr (by have := HS4.out; omega))
    have h3 : W2.heap[w.heap.size + 1]? = _ := (hT2.block _ (by have := HS4.out; omega) (by omega)).trans ((B24.out.block _ (lt_of_block HK.out)).trans HK.out)
    have h4 : W2.heap[W.heap.size]? = _ := (hg.block W.heap.size (by simp) (fun hh => by have := Option.some.inj hh; omega)).trans (heap_alloc_new W _)
    have hown2 := (HOW.out.alloc (.cells #[.string sn, .slice A1 nf k1, .slice A2 nb k2] 32)).kept hg (fun hh => by have := Option.some.inj hh; omega)
    have c3 := obj_cell h3 0
    have c4 := obj_cell h4 0
    have HOW2 := Lib.hid hown2
    have HT2 := Lib.hid hT2
    have HLT2 : Hid (w.heap.size + 3 + 1 < W2.heap.size) := Lib.hid (by rw [hsz, World.size_alloc]; omega)
    clear hT2 h3 h4 hown2 hg hL hsz
    gi_wp2_with (gi_at_mapUpdate; refine wpListIn_mapUpdate_own _ rfl _ _ _ 74 rfl 9 3 str_keyed Try.underlying74 _ w.heap.size k _ rfl HOW2.out (by unfold maxLen; omega) _ _ _ rfl rfl HKEY.out _ [] (plainElem_int Try.underlying3 (WalkArith.wf_i64 (by omega))) ?_; intro W3 hown3 hgrow3)
    refine ⟨⟨k + 1, rfl, hkn2, HT2.out.grown hgrow3 (fun i hi => by cases hi; exact .inl rfl), _, hown3, mapIs_congr (mapIs_put HMD.out nm (j : Int)) (fun t => by rw [HJN.out, HST.out t])⟩, hgrow3.block _ (by have := HLT2.out; omega) (fun hh => by have := Option.some.inj hh; omega), hgrow3.block _ (by have := HLT2.out; omega) (fun hh => by have := Option.some.inj hh; omega), hgrow3.size⟩
  case hdone =>
    rintro k W hk ⟨h0, h1, h2⟩ hD
    have hlen : n ≤ k := by
      unfold bkVals at hk
      split at hk
      · rename_i hlt
        rw [List.getElem?_eq_getElem (by omega)] at hk
        cases hk
      · have := HN.out; omega
    obtain rfl : k = n := by omega
    rw [Nat.sub_self] at h2
    have hbf : Below w.heap.size w (W.putObj w4.heap.size (.deferred none)) := by
      have hw : Below w.heap.size w W := (HB2.out.trans (B24.out.mono HB2.out.size)).trans (h1.below (by have := HS4.out; omega) (fun i hi => by subst hi; omega))
      exact hw.grown (grownBy_putObj' W w4.heap.size (.deferred none)) hw.size (fun i hi => by have := Option.some.inj hi; have := HS4.out; omega)
    have h3 : W.heap[w.heap.size + 1]? = _ := (h1.block _ (by have := HS4.out; omega) (by omega)).trans ((B24.out.block _ (lt_of_block HK.out)).trans HK.out)
    have c0 := obj_cell h3 0
    have hmf : MapAt (W.putObj w4.heap.size (.deferred none)) w.heap.size k (fun t => if t ∈ l.map Ms.name then some (placeT (l.map Ms.name) t) else none) := by
      obtain ⟨D, q1, q2⟩ := h2.kept (grownBy_putObj' W w4.heap.size (.deferred none)) (fun hh => by have := Option.some.inj hh; have := HS4.out; omega)
      exact ⟨D, q1, mapIs_congr q2 (fun t => firstFrom_zero _ t)⟩
    have HBF := Lib.hid hbf
    have HD := Lib.hid hD
    have HMF := Lib.hid hmf
    clear h1 h2 hD hbf hk hmf h3
    go_wp2_with fail
    refine ⟨by simp, .inl ⟨_, _, rfl, run_takeDeferred (b := w4.heap.size) (ds := []) HD.out, ?_⟩⟩
    exact ⟨_, results_tmp rfl _ _ _, rfl, HMF.out, HBF.out⟩
end Go.Proofs.Ytmajhjkibmbikaa

/- The program's layer 16: the list that grows while it is gone through. Conditions: those that each theorem names. -/
namespace Go.Proofs.Ytmajhjkibmbikaa
open Go.RowKit Go.Shelf
set_option linter.unusedVariables false
set_option maxRecDepth 100000
attribute [local go_sem] Oper.semAt_some

/-- The cells of message i; where there is none, of an empty one. -/
def msM (l : List Ms) (Q : MsPl) (i : Nat) : List Value := match l[i]? with
  | some x => msC x (Q i)
  | none => [.string ByteArray.empty, .slice none 0 0, .slice none 0 0]
theorem msM_form (l : List Ms) (Q : MsPl) (i : Nat) : ∃ sn A1 n1 c1 A2 n2 c2, msM l Q i = [.string sn, .slice A1 n1 c1, .slice A2 n2 c2] := by
  unfold msM
  cases l[i]? with
  | none => exact ⟨_, _, _, _, _, _, _, rfl⟩
  | some x => exact ⟨_, _, _, _, _, _, _, rfl⟩
theorem msM_len (l : List Ms) (Q : MsPl) (i : Nat) : (msM l Q i).length = 3 := by
  obtain ⟨_, _, _, _, _, _, _, e⟩ := msM_form l Q i
  rw [e]; rfl
theorem msM_some {l : List Ms} {Q : MsPl} {i : Nat} {x : Ms} (h : l[i]? = some x) : msM l Q i = msC x (Q i) := by
  unfold msM
  rw [h]
/-- What the list is, at its place: how many have been gone through, which messages are on it. -/
def GrowR (B tb Bnd : Nat) (l : List Ms) (Q : MsPl) (s : Nat × List Nat) (W : World) : Prop :=
  s.2.length ≤ Bnd ∧ s.1 ≤ s.2.length ∧ ∃ v, W.heap[tb]? = some (.cells #[v] 23 (0, 0)) ∧ W.ownsRow B 32 3 v s.2.length (s.2.flatMap (msM l Q))
def grVals (l : List Ms) (Q : MsPl) (s : Nat × List Nat) : Option (Array Value) := (s.2[s.1]?).map fun i => #[.agg (msM l Q i).toArray]

set_option maxHeartbeats 4000000 in
theorem grow_seq (B tb Bnd : Nat) (l : List Ms) (Q : MsPl) (hB : Bnd ≤ 1000) :
    SeqS Try.prog 62 #[.pointer (some ⟨tb, 0, none⟩)] (grVals l Q) (fun s s' => s'.1 = s.1 + 1) (0, [0]) (GrowR B tb Bnd l Q) := by
  intro nn ly J X W hR hB2 hY h0
  have HR := Lib.hid hR
  have HY := Lib.hid hY
  have H0 := Lib.hid h0
  clear hR hB2 hY h0
  refine callsIn_of_wp Try.func62 rfl trivial ?_ rfl
  simp only [Try.ntmps62, List.size_toArray, List.length_cons, List.length_nil, Nat.reduceAdd, Nat.reduceSub, Array.replicate_succ, Array.replicate_zero, List.push_toArray, List.append_toArray, List.nil_append, List.cons_append]
  gi_wp2
  gi_loopw [3] (fun x wr => ∃ (i : Nat) (ix : List Nat), x = .int .i64 (i : Int) ∧ J (i, ix) wr) (fun x _ => Bnd + 1 - (intOf x).toNat)
  case atStart => exact ⟨0, [0], rfl, H0.out⟩
  case round =>
    obtain ⟨i, ix, rfl, hJ⟩ := hrel
    have HJ := Lib.hid hJ
    obtain ⟨g1, g2, v, hbx, hown⟩ := HR.out _ _ HJ.out
    dsimp only at g1 g2 hown
    clear hJ
    have r0 := obj_cell hbx 0
    by_cases hlt : i < ix.length
    · obtain ⟨at_, hat⟩ : ∃ a, ix[i]? = some a := ⟨_, List.getElem?_eq_getElem hlt⟩
      obtain ⟨g, cap, hv, hb, hcp, hcm, hgl⟩ := own_pos hown (by omega)
      obtain ⟨nl, hnl⟩ : ∃ nl, nl = ix.length := ⟨_, rfl⟩
      have hf3 := msM_len l Q
      obtain ⟨sn, A1, n1, c1, A2, n2, c2, e⟩ := msM_form l Q at_
      have u0 := own_cell hown (g := g) (by rw [hv]; rfl) ((flat_get (msM l Q) 3 hf3 ix i at_ 0 hat (by omega)).trans (by rw [e]; rfl))
      have u1 := own_cell hown (g := g) (by rw [hv]; rfl) ((flat_get (msM l Q) 3 hf3 ix i at_ 1 hat (by omega)).trans (by rw [e]; rfl))
      have u2 := own_cell hown (g := g) (by rw [hv]; rfl) ((flat_get (msM l Q) 3 hf3 ix i at_ 2 hat (by omega)).trans (by rw [e]; rfl))
      have hvals : grVals l Q (i, ix) = some #[.agg #[.string sn, .slice A1 n1 c1, .slice A2 n2 c2]] := by
        unfold grVals
        rw [hat]
        show some #[Value.agg (msM l Q at_).toArray] = _
        rw [e]
      obtain ⟨fn, tmps, assign, body, hy, hRR⟩ := HY.out _ _ wr hvals HJ.out
      rw [← hnl] at hv g1
      subst hv
      unfold maxLen at hcm
      rw [Nat.add_zero] at u0
      rw [Nat.mul_comm] at u0 u1 u2
      have hlt2 : i < nl := by omega
      have e1 : decide ((i : Int) < (nl : Int)) = true := decide_eq_true (by omega)
      clear hown hvals hat hnl
      gi_wp2
      refine ⟨fun hd => by simp [Fence.wide] at hd, hRR.mono ?_⟩
      rintro e W3 (⟨rfl, ⟨i', ix'⟩, hadv, hJ3⟩ | ⟨rfl, hX⟩)
      · have HJ3 := Lib.hid hJ3
        have HADV : Hid (i' = i + 1) := Lib.hid hadv
        clear hJ3 hRR hy hadv
        gi_wp2
        go_roundw
        case rel => exact ⟨i + 1, ix', by go_num, by have h := HJ3.out; rw [HADV.out] at h; exact h⟩
        case measure => simp [intOf]; omega
      · have HX3 := Lib.hid hX
        clear hX hRR hy
        gi_wp2
        go_end0
        exact ⟨⟨_, rfl⟩, .inr HX3.out⟩
    · obtain ⟨A, cap, rfl, _⟩ := own_form hown
      have e1 : decide ((i : Int) < (ix.length : Int)) = false := decide_eq_false (by omega)
      have HE : Hid (grVals l Q (i, ix) = none) := Lib.hid (by unfold grVals; rw [List.getElem?_eq_none (by show ix.length ≤ i; omega)]; rfl)
      gi_wp2
      refine ⟨(fun _ h => by cases h), ?_⟩
      gi_wp2
      go_end0
      exact ⟨⟨_, rfl⟩, .inl ⟨_, HE.out, HJ.out⟩⟩
end Go.Proofs.Ytmajhjkibmbikaa

/- Layer 16's Kin in plain words, on: told by what fields name; what is left to be told (no program here). Conditions: those that each theorem names. -/
namespace Go.Proofs.Ytmajhjkibmbikaa
open Go.RowKit
set_option linter.unusedVariables false

/-- One name more, if it is a message's and not told. -/
def kinRef (s : Sc) (out : List (List UInt8)) (r : List UInt8) : List (List UInt8) := if !decide (r ∈ out) && decide (0 ≤ messageT s r) then out ++ [r] else out
theorem kinMsg_refs (s : Sc) : ∀ (l : List Fd) (out : List (List UInt8)), kinMsg s out l = (refsF l).foldl (kinRef s) out
  | [], _ => rfl
  | f :: r, out => by
    have e : kinMsg s out (f :: r) = kinMsg s (kinAdd s out f) r := rfl
    rw [e, kinMsg_refs s r]
    unfold refsF kinAdd
    by_cases h : f.ty = 15
    · simp [h, kinRef]
    · simp [h]
/-- What is left to be told. -/
def leftF (s : Sc) (out : List (List UInt8)) (t : List UInt8) : Option Int := if t ∈ mNames s ∧ t ∉ out then some (messageT s t) else none
theorem place_mem {l : List (List UInt8)} {t : List UInt8} : 0 ≤ placeT l t ↔ t ∈ l := by
  constructor
  · exact mem_of_place
  · intro h
    obtain ⟨p, _, e, _⟩ := placeT_spot h
    omega
theorem kinRef_none {s : Sc} {out : List (List UInt8)} {r : List UInt8} (h : leftF s out r = none) : kinRef s out r = out := by
  unfold leftF at h
  unfold kinRef
  split at h
  · cases h
  · rename_i hn
    rw [if_neg]
    simp only [Bool.and_eq_true, Bool.not_eq_true', decide_eq_false_iff_not, decide_eq_true_eq]
    rintro ⟨h1, h2⟩
    exact hn ⟨place_mem.mp h2, h1⟩
theorem kinRef_some {s : Sc} {out : List (List UInt8)} {r : List UInt8} {x : Int} (h : leftF s out r = some x) : kinRef s out r = out ++ [r] ∧ x = messageT s r ∧ r ∈ mNames s ∧ r ∉ out := by
  unfold leftF at h
  split at h
  · rename_i hn
    cases h
    refine ⟨?_, rfl, hn.1, hn.2⟩
    unfold kinRef
    rw [if_pos]
    simp only [Bool.and_eq_true, Bool.not_eq_true', decide_eq_false_iff_not, decide_eq_true_eq]
    exact ⟨hn.2, place_mem.mpr hn.1⟩
  · cases h
theorem leftF_snoc (s : Sc) (out : List (List UInt8)) (r t : List UInt8) : leftF s (out ++ [r]) t = if t = r then none else leftF s out t := by
  unfold leftF
  by_cases h : t = r
  · subst h
    simp
  · simp [h]
theorem kinRefs_shut {s : Sc} {out : List (List UInt8)} (h : ∀ t, leftF s out t = none) : ∀ rs : List (List UInt8), rs.foldl (kinRef s) out = out
  | [] => rfl
  | r :: rs => by rw [List.foldl_cons, kinRef_none (h r)]; exact kinRefs_shut h rs
theorem kinGo_shut {s : Sc} {out : List (List UInt8)} (h : ∀ t, leftF s out t = none) : ∀ (f i : Nat), kinGo s f out i = out
  | 0, _ => rfl
  | f + 1, i => by
    rw [kinGo]
    cases out[i]? with
    | none => rfl
    | some t =>
      show kinGo s f (kinMsg s out (msgOf s t).fields) (i + 1) = out
      rw [kinMsg_refs, kinRefs_shut h]
      exact kinGo_shut h f (i + 1)
/-- The names of these messages. -/
def namesOf (l : List Ms) (ix : List Nat) : List (List UInt8) := ix.map (fun i => ((l[i]?).map Ms.name).getD [])
theorem namesOf_snoc {l : List Ms} {ix : List Nat} {i : Nat} {m : Ms} (h : l[i]? = some m) : namesOf l (ix ++ [i]) = namesOf l ix ++ [m.name] := by
  unfold namesOf
  rw [List.map_append]
  simp [h]
theorem namesOf_len (l : List Ms) (ix : List Nat) : (namesOf l ix).length = ix.length := by unfold namesOf; rw [List.length_map]
theorem namesOf_get {l : List Ms} {ix : List Nat} {i a : Nat} {m : Ms} (h : ix[i]? = some a) (hm : l[a]? = some m) : (namesOf l ix)[i]? = some m.name := by
  unfold namesOf
  rw [List.getElem?_map, h]
  simp [hm]
/-- Messages that are the first of their names, each once. -/
def GoodIx (s : Sc) (ix : List Nat) : Prop := (∀ a ∈ ix, ∃ m, s.msgs[a]? = some m ∧ messageT s m.name = (a : Int)) ∧ KinOk s (namesOf s.msgs ix)
theorem goodIx_len {s : Sc} {ix : List Nat} (h : GoodIx s ix) : ix.length ≤ s.msgs.length := by
  have := kinOk_le h.2
  rwa [namesOf_len] at this
theorem goodIx_zero {s : Sc} {m : Ms} (h : s.msgs[0]? = some m) : GoodIx s [0] := by
  refine ⟨fun a ha => ?_, ?_⟩
  · rw [List.mem_singleton.mp ha]
    refine ⟨m, h, ?_⟩
    have hn : (mNames s)[0]? = some m.name := by unfold mNames; rw [List.getElem?_map, h]; rfl
    exact placeT_hit hn (fun j x hj => absurd hj (Nat.not_lt_zero _))
  · have : namesOf s.msgs [0] = [m.name] := by unfold namesOf; simp [h]
    rw [this]
    exact kin_start h
/-- The message that is told next. -/
theorem goodIx_next {s : Sc} {ix : List Nat} (h : GoodIx s ix) {r : List UInt8} {x : Int} (hx : leftF s (namesOf s.msgs ix) r = some x) :
    ∃ (p : Nat) (m : Ms), x = (p : Int) ∧ s.msgs[p]? = some m ∧ m.name = r ∧ p < s.msgs.length ∧ GoodIx s (ix ++ [p]) ∧ namesOf s.msgs (ix ++ [p]) = kinRef s (namesOf s.msgs ix) r ∧ ∀ t, leftF s (namesOf s.msgs (ix ++ [p])) t = if t = r then none else leftF s (namesOf s.msgs ix) t := by
  obtain ⟨e1, rfl, e3, e4⟩ := kinRef_some hx
  obtain ⟨p, hp, e5, m, hm, e6, _⟩ := msg_spot e3
  have e7 := namesOf_snoc (ix := ix) hm
  rw [e6] at e7
  refine ⟨p, m, e5, hm, e6, hp, ⟨fun a ha => ?_, ?_⟩, by rw [e7, e1], fun t => by rw [e7]; exact leftF_snoc s _ r t⟩
  · rcases List.mem_append.mp ha with ha | ha
    · exact h.1 a ha
    · rw [List.mem_singleton.mp ha]
      exact ⟨m, hm, by rw [e6]; exact e5⟩
  · rw [e7]
    refine ⟨fun t ht => ?_, ?_⟩
    · rcases List.mem_append.mp ht with ht | ht
      · exact h.2.1 t ht
      · rw [List.mem_singleton.mp ht]; exact e3
    · rw [List.nodup_append]
      refine ⟨h.2.2, by simp, fun a ha b hb e => ?_⟩
      rw [List.mem_singleton.mp hb] at e
      exact e4 (e ▸ ha)
/-- One message gone through. -/
theorem kinGo_round {s : Sc} {ix : List Nat} {i a : Nat} {m : Ms} (h : GoodIx s ix) (hi : ix[i]? = some a) (hm : s.msgs[a]? = some m) (hk : kinGo s (s.msgs.length + 1 - i) (namesOf s.msgs ix) i = kinT s) :
    kinGo s (s.msgs.length + 1 - (i + 1)) ((refsF m.fields).foldl (kinRef s) (namesOf s.msgs ix)) (i + 1) = kinT s := by
  have hil := (List.getElem?_eq_some_iff.mp hi).1
  have hle := goodIx_len h
  obtain ⟨m', hm', hp⟩ := h.1 a (List.mem_of_getElem? hi)
  rw [hm] at hm'
  obtain rfl := Option.some.inj hm'
  rw [show s.msgs.length + 1 - i = (s.msgs.length + 1 - (i + 1)) + 1 by omega, kinGo, namesOf_get hi hm] at hk
  have hmo : msgOf s m.name = m := by
    unfold msgOf
    rw [hp]
    simp [hm]
  rw [← kinMsg_refs]
  rw [← hk]
  show _ = kinGo s _ (kinMsg s _ (msgOf s m.name).fields) (i + 1)
  rw [hmo]
/-- All have been gone through. -/
theorem kinGo_last {s : Sc} {ix : List Nat} {i : Nat} (h : ix.length ≤ i) (f : Nat) : kinGo s f (namesOf s.msgs ix) i = namesOf s.msgs ix := by
  cases f with
  | zero => rfl
  | succ f =>
    rw [kinGo, List.getElem?_eq_none (by rw [namesOf_len]; exact h)]
/-- Nothing is left. -/
theorem kin_broken {s : Sc} {ix ix' : List Nat} {i k : Nat} {rs : List (List UInt8)} (h : ∀ t, leftF s (namesOf s.msgs ix') t = none) (he : namesOf s.msgs ix' = (rs.take k).foldl (kinRef s) (namesOf s.msgs ix))
    (hk : kinGo s (s.msgs.length + 1 - (i + 1)) (rs.foldl (kinRef s) (namesOf s.msgs ix)) (i + 1) = kinT s) : namesOf s.msgs ix' = kinT s := by
  have e : rs.foldl (kinRef s) (namesOf s.msgs ix) = namesOf s.msgs ix' := by
    conv => lhs; rw [← List.take_append_drop k rs, List.foldl_append, ← he]
    exact kinRefs_shut h _
  rw [e, kinGo_shut h] at hk
  exact hk
theorem foldl_take_snoc {α β : Type} {f : β → α → β} {b : β} {l : List α} {k : Nat} {x : α} (h : l[k]? = some x) : (l.take (k + 1)).foldl f b = f ((l.take k).foldl f b) x := by
  rw [split_take h, List.foldl_append]
  rfl
end Go.Proofs.Ytmajhjkibmbikaa
