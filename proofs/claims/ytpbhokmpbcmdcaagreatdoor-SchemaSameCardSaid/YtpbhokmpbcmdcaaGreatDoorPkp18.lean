/- Several texts in one: LstApp, Cpy, SchMut. What each proves, and its conditions, stands at its own head. -/
import Derived.Test.YtpbhokmpbcmdcaaGreatDoorPkp17
import Derived.Test.YtpbhokmpbcmdcaaGreatDoorPkp4
import Derived.Test.YtpbhokmpbcmdcaaGreatDoorChecked
import Derived.Test.YtpbhokmpbcmdcaaGreatDoorPkp0
import Derived.WalkKit
import Derived.RowKitTokens
import Derived.OwnWalk
import Derived.Deep.RegionHeld3
/- append of lists of structs onto a row of the call's own, whatever they are; rows by the kind of their block. Conditions: those that each theorem names. -/
namespace Go.Proofs.YtpbhokmpbcmdcaaGreatDoor
open Go.RowKit
set_option linter.unusedVariables false
set_option maxRecDepth 100000

theorem flat_inv {α β : Type} (f : α → List β) (k : Nat) (hk : 0 < k) (hf : ∀ a, (f a).length = k) (l : List α) (j : Nat) (u : β) (h : (l.flatMap f)[j]? = some u) : ∃ x, l[j / k]? = some x ∧ (f x)[j % k]? = some u := by
  have hj := (List.getElem?_eq_some_iff.mp h).1
  rw [flat_length f k hf] at hj
  have hq : j / k < l.length := Nat.div_lt_of_lt_mul (by rw [Nat.mul_comm]; exact hj)
  refine ⟨l[j / k], List.getElem?_eq_getElem hq, ?_⟩
  have e := flat_get f k hf l (j / k) l[j / k] (j % k) (List.getElem?_eq_getElem hq) (Nat.mod_lt _ hk)
  rw [Nat.div_add_mod] at e
  rw [← e]
  exact h
theorem run_append_lst {α : Type} {P : Program} {w : World} {base n k bytes : Nat} {t e : TypeId} {i : TypeInfo} {z : Value} {v : Value} {xs : List Value} {S : Nat → Prop} {R : World → List Value → α → Prop} {f : α → List Value} {A : Option Addr} {m c : Nat} {l : List α} (ty : TypeId)
    (ht : P.underlying t = some (.slice e)) (hi : P.info? e = some i) (hz : i.zero = some z) (hsize : i.size = k) (hby : i.bytes = bytes) (hzs : z.cells.size = k) (hk : 0 < k)
    (hf : ∀ x, (f x).length = k) (h1 : ∀ x u, u ∈ f x → u.oneCell' = true) (hown : w.ownsRow base e k v n xs) (hb : Lst k S R w A c l) (hR : ∀ cs x, R w cs x → cs = f x) (hm : m = l.length)
    (h63 : n + m ≤ maxLen) (hbytes : (n + m) * bytes ≤ 140737488355328) (hbase : base ≤ w.heap.size) :
    ∃ v' w', (Builtin.append_ #[t, t] ty #[v, .slice A m c]).run P w = .ok v' w' ∧ w'.ownsRow base e k v' (n + m) (xs ++ l.flatMap f) ∧ w.grownBy w' v.ownBlock ∧ Moved w v v' := by
  subst hm
  rcases A with _ | ad
  · have h0 := hb.l_nil rfl
    have hle := hb.l_le
    have hl : l = [] := List.eq_nil_of_length_eq_zero (by omega)
    subst hl h0
    exact ⟨v, w, run_append_owned_none w base t ty e i k ht hi v n xs hown, by simpa using hown, World.grownBy.refl _ _, .inl rfl⟩
  · exact run_append_own2 w base t ty e i z k bytes ht hi hz hsize hby hzs hk v n xs hown ad l.length c (l.flatMap f) (flat_length f k hf l) (fun j u hu => by
      obtain ⟨x, hx, hfx⟩ := flat_inv f k hk hf l j u hu
      obtain ⟨g, off, cs, ea, _, _, hr, hc⟩ := hb.l_at _ x hx
      obtain rfl := hR cs x hr
      cases ea
      have hplain : (⟨g, off, none⟩ : Addr).add j = ⟨g, off + j, none⟩ := by unfold Addr.add; split <;> simp_all
      rw [hplain]
      have := hc _ u hfx
      rwa [show off + j / k * k + j % k = off + j by have := Nat.div_add_mod j k; rw [Nat.mul_comm] at this; omega] at this) (fun u hu => by
      obtain ⟨x, _, hx⟩ := List.mem_flatMap.mp hu
      exact h1 x u hx) h63 hbytes hbase
/-- 'append' as a step of a region, off what it answers. -/
theorem step_append_run {P : Program} {ops : Array Oper} {o : Oper} {a : Act} {w : World} {K : Act → World → Prop} {Q : Exit → Act → World → Prop} {E : Prop} {t : TypeId} {v y : Value} (hw : Region.wanted o (yielded ops a.tmps) = true) (s x : Operand)
    (ho : o.op = .call { callee := .builtin .append, args := #[s, x], argTypes := #[t, t] }) (hs : a.eval s = v) (hx : a.eval x = y) {X : Value → World → Prop}
    (hr : ∃ v' w', (Builtin.append_ #[t, t] o.type #[v, y]).run P w = .ok v' w' ∧ X v' w') (hK : ∀ v' w', X v' w' → K (a.put o.dst v') w') : if Region.wanted o (yielded ops a.tmps) = true then Oper.wp P o a w K Q else E := by
  rw [if_pos hw]
  obtain ⟨v', w', hr, hX⟩ := hr
  unfold Oper.wp execOp
  simp only [ho, resolve, invoke, builtin, Sem.run_bind, Sem.run_pure, Result.andThen_ok, List.map_toArray, List.map_cons, List.map_nil, hs, hx, hr]
  exact hK v' w' hX

/-- Which type lies in a block, by its kind: values, fields, numbers, enums, messages. -/
def tyK : Nat → TypeId
  | 0 => 44
  | 1 => 39
  | 2 => 3
  | 3 => 42
  | _ => 37
def Typed (base : Nat) (w : World) (k g : Nat) : Prop := base ≤ g ∧ ∃ cs, w.heap[g]? = some (.cells cs (tyK k) (0, 0))
theorem own_typed {w : World} {base k n : Nat} {t : TypeId} {v : Value} {xs : List Value} (h : w.ownsRow base t k v n xs) {g : Nat} (hg : v.ownBlock = some g) : base ≤ g ∧ ∃ cs, w.heap[g]? = some (.cells cs t (0, 0)) := by
  rcases h.2 with ⟨rfl, _⟩ | ⟨g', cap, cur, rfl, hb, hh, _⟩
  · simp [Value.ownBlock] at hg
  · simp [Value.ownBlock] at hg
    subst hg
    exact ⟨hb, _, hh⟩
theorem lst_own_typed {α : Type} {w : World} {base k n : Nat} {t : TypeId} {v : Value} {l : List α} {f : α → List Value} {R : World → List Value → α → Prop} (hk : 0 < k) (hf : ∀ x, (f x).length = k) (hR : ∀ x ∈ l, R w (f x) x) (h : w.ownsRow base t k v n (l.flatMap f)) :
    n = l.length ∧ ∃ A cap, v = .slice A l.length cap ∧ Lst k (fun g => base ≤ g ∧ ∃ cs, w.heap[g]? = some (.cells cs t (0, 0))) R w A cap l := by
  obtain ⟨hn, A, cap, rfl, hl⟩ := lst_own hk hf hR h
  refine ⟨hn, A, cap, rfl, ⟨hl.l_le, hl.l_max, hl.l_nil, fun j x hj => ?_⟩⟩
  obtain ⟨g, off, cs, rfl, hg, h2, h3, h4⟩ := hl.l_at j x hj
  refine ⟨g, off, cs, rfl, ?_, h2, h3, h4⟩
  rcases h.2 with ⟨e, _⟩ | ⟨g2, cap2, cur, e, hb, hh, _⟩
  · cases e
  · injection e with e1 e2 e3
    injection e1 with e1
    injection e1 with e4 e5 e6
    subst e4
    exact ⟨hb, _, hh⟩
theorem lst_map {α β : Type} {k : Nat} {S : Nat → Prop} {R : World → List Value → α → Prop} {R' : World → List Value → β → Prop} {w : World} {A : Option Addr} {cap : Nat} {l : List α} (g : α → β) (h : Lst k S R w A cap l) (hR : ∀ x ∈ l, ∀ cs, R w cs x → R' w cs (g x)) : Lst k S R' w A cap (l.map g) :=
  ⟨by rw [List.length_map]; exact h.l_le, h.l_max, h.l_nil, fun j y hj => by
    rw [List.getElem?_map] at hj
    cases hx : l[j]? with
    | none => rw [hx] at hj; cases hj
    | some x =>
      rw [hx] at hj
      injection hj with hj
      subst hj
      obtain ⟨a, b, cs, e, h1, h2, h3, h4⟩ := h.l_at j x hx
      exact ⟨a, b, cs, e, h1, h2, hR x (List.mem_of_getElem? hx) cs h3, h4⟩⟩
end Go.Proofs.YtpbhokmpbcmdcaaGreatDoor

/- A copy of a schema that is being made: what stands in memory, and what each step keeps. Conditions: those that each theorem names. -/
namespace Go.Proofs.YtpbhokmpbcmdcaaGreatDoor
open Go.RowKit
set_option linter.unusedVariables false
set_option maxRecDepth 100000

structure CE where
  ce_e : En
  ce_a : Option Addr
  ce_c : Nat
structure CM where
  cm_m : Ms
  cm_a : Option Addr
  cm_c : Nat
  cm_b : Option Addr
  cm_d : Nat
def ceCells (x : CE) : List Value := [.string (strOf x.ce_e.name), .slice x.ce_a x.ce_e.values.length x.ce_c]
def cmCells (x : CM) : List Value := [.string (strOf x.cm_m.name), .slice x.cm_a x.cm_m.fields.length x.cm_c, .slice x.cm_b x.cm_m.barred.length x.cm_d]
structure Cpy (wr : World) (ob base : Nat) (ve vm : Value) (es : List CE) (ms : List CM) : Prop where
  c_box : wr.heap[ob]? = some (.cells #[ve, vm] 25 (0, 0))
  c_e : wr.ownsRow base 42 2 ve es.length (es.flatMap ceCells)
  c_m : wr.ownsRow base 37 3 vm ms.length (ms.flatMap cmCells)
  c_v : ∀ x ∈ es, Lst 2 (Typed base wr 0) vlR wr x.ce_a x.ce_c x.ce_e.values
  c_f : ∀ x ∈ ms, Lst 7 (Typed base wr 1) fdR wr x.cm_a x.cm_c x.cm_m.fields
  c_b : ∀ x ∈ ms, Lst 1 (Typed base wr 2) inR wr x.cm_b x.cm_d x.cm_m.barred

/-- Rows of these kinds stay. -/
def Stays (base : Nat) (w w' : World) : Prop := ∀ k g cs, k ≤ 2 → base ≤ g → w.heap[g]? = some (.cells cs (tyK k) (0, 0)) → w'.heap[g]? = w.heap[g]?
theorem typed_keep {α : Type} {kk k base : Nat} {R : World → List Value → α → Prop} {w w' : World} {A : Option Addr} {c : Nat} {l : List α} (h : Lst kk (Typed base w k) R w A c l) (hs : Stays base w w') (hk : k ≤ 2) (hR : ∀ cs x, R w cs x → R w' cs x) : Lst kk (Typed base w' k) R w' A c l :=
  lst_keep h hR (fun g ⟨hb, cs, hg⟩ => ⟨hb, cs, (hs k g cs hk hb hg).trans hg⟩) (fun p ⟨hb, cs, hg⟩ _ => World.cell?_of_block (hs k p.block cs hk hb hg))
theorem stays_below {base : Nat} {w w' : World} (hb : Below w.heap.size w w') : Stays base w w' := fun k g cs _ _ hg => hb.block g (lt_of_block hg)
theorem stays_trans {base : Nat} {a b c : World} (h : Stays base a b) (k : Stays base b c) : Stays base a c := fun i g cs hi hb hg => (k i g cs hi hb ((h i g cs hi hb hg).trans hg)).trans (h i g cs hi hb hg)
theorem stays_grown {base base' k n : Nat} {w w' : World} {t : TypeId} {v : Value} {xs : List Value} (h : w.ownsRow base' t k v n xs) (hg : w.grownBy w' v.ownBlock) (ht : t = tyK 3 ∨ t = tyK 4) : Stays base w w' := fun i g cs hi hb hc =>
  hg.block g (lt_of_block hc) (fun e => by
    obtain ⟨_, cs', hc'⟩ := own_typed h e.symm
    rw [hc] at hc'
    injection hc' with hc'
    injection hc' with e1 e2
    match i, hi with
    | 0, _ => rcases ht with rfl | rfl <;> exact absurd e2 (by decide)
    | 1, _ => rcases ht with rfl | rfl <;> exact absurd e2 (by decide)
    | 2, _ => rcases ht with rfl | rfl <;> exact absurd e2 (by decide))
theorem stays_set {base ob : Nat} {w : World} {cs : Array Value} (h : w.heap[ob]? = some (.cells cs 25 (0, 0))) (j : Nat) (u : Value) : Stays base w (w.setCell ⟨ob, j, none⟩ u) := fun i g ds hi hb hg =>
  Below.heap_setCell w ⟨ob, j, none⟩ u g (fun e => by
    have e' : g = ob := e
    subst e'
    rw [hg] at h
    injection h with h
    injection h with e1 e2
    match i, hi with
    | 0, _ => exact absurd e2 (by decide)
    | 1, _ => exact absurd e2 (by decide)
    | 2, _ => exact absurd e2 (by decide))
theorem grown_at {w w' : World} {v : Value} (hg : w.grownBy w' v.ownBlock) {k : Nat} (hk : k < w.heap.size) (hv : v.ownBlock ≠ some k) : w'.heap[k]? = w.heap[k]? := hg.block k hk (fun e => hv e.symm)

/-- One more enum. -/
theorem cpy_enum {wr W1 W2 : World} {ob base : Nat} {ve vm v2 : Value} {es : List CE} {ms : List CM} (h : Cpy wr ob base ve vm es ms) (hb : Below wr.heap.size wr W1) (x : CE) (hx : Lst 2 (Typed base W1 0) vlR W1 x.ce_a x.ce_c x.ce_e.values)
    (ho : W2.ownsRow base 42 2 v2 (es.length + 1) (es.flatMap ceCells ++ ceCells x)) (hg : W1.grownBy W2 ve.ownBlock) : Cpy (W2.setCell ⟨ob, 0, none⟩ v2) ob base v2 vm (es ++ [x]) ms ∧ W2.heap[ob]? = some (.cells #[ve, vm] 25 (0, 0)) ∧ ∀ g, g < wr.heap.size → g ≠ ob → ve.ownBlock ≠ some g → (W2.setCell ⟨ob, 0, none⟩ v2).heap[g]? = wr.heap[g]? ∧ W2.heap[g]? = wr.heap[g]? := by
  have he1 := own_below h.c_e hb
  have hm1 := own_below h.c_m hb
  have hob := lt_of_block h.c_box
  have hb1 : W1.heap[ob]? = some (.cells #[ve, vm] 25 (0, 0)) := (hb.block ob hob).trans h.c_box
  have n1 : ve.ownBlock ≠ some ob := own_other he1 hb1 (by decide)
  have hb2 : W2.heap[ob]? = some (.cells #[ve, vm] 25 (0, 0)) := (grown_at hg (lt_of_block hb1) n1).trans hb1
  have hm2 : W2.ownsRow base 37 3 vm ms.length (ms.flatMap cmCells) := own_block hm1 (fun k hk => grown_at hg (hm1.lt k hk).2 (own_own he1 hm1 (by decide) hk))
  have n2 : vm.ownBlock ≠ some ob := own_other hm2 hb2 (by decide)
  have n3 : v2.ownBlock ≠ some ob := own_other ho hb2 (by decide)
  have s1 : Stays base W1 (W2.setCell ⟨ob, 0, none⟩ v2) := stays_trans (stays_grown he1 hg (.inl rfl)) (stays_set hb2 0 v2)
  have s0 : Stays base wr (W2.setCell ⟨ob, 0, none⟩ v2) := stays_trans (stays_below hb) s1
  refine ⟨⟨?_, ?_, ?_, ?_, ?_, ?_⟩, hb2, fun g hgl hgo hgv => ?_⟩
  · have := obj_set hb2 0 v2
    simpa using this
  · rw [List.length_append, List.flatMap_append, List.flatMap_cons, List.flatMap_nil, List.append_nil]
    exact own_block ho (fun k hk => Below.heap_setCell W2 ⟨ob, 0, none⟩ v2 k (fun e => n3 (by rw [hk]; exact congrArg some e)))
  · exact own_block hm2 (fun k hk => Below.heap_setCell W2 ⟨ob, 0, none⟩ v2 k (fun e => n2 (by rw [hk]; exact congrArg some e)))
  · intro y hy
    rcases List.mem_append.mp hy with hy | hy
    · exact typed_keep (h.c_v y hy) s0 (by decide) (fun _ _ h => h)
    · obtain rfl : y = x := by simpa using hy
      exact typed_keep hx s1 (by decide) (fun _ _ h => h)
  · exact fun y hy => typed_keep (h.c_f y hy) s0 (by decide) (fun _ _ h => h)
  · exact fun y hy => typed_keep (h.c_b y hy) s0 (by decide) (fun _ _ h => h)
  · exact ⟨by rw [Below.heap_setCell W2 ⟨ob, 0, none⟩ v2 g hgo, grown_at hg (by have := hb.size; omega) hgv, hb.block g hgl], by rw [grown_at hg (by have := hb.size; omega) hgv, hb.block g hgl]⟩
/-- One more message. -/
theorem cpy_msg {wr W1 W2 : World} {ob base : Nat} {ve vm v2 : Value} {es : List CE} {ms : List CM} (h : Cpy wr ob base ve vm es ms) (hb : Below wr.heap.size wr W1) (x : CM) (hx : Lst 7 (Typed base W1 1) fdR W1 x.cm_a x.cm_c x.cm_m.fields) (hx2 : Lst 1 (Typed base W1 2) inR W1 x.cm_b x.cm_d x.cm_m.barred)
    (ho : W2.ownsRow base 37 3 v2 (ms.length + 1) (ms.flatMap cmCells ++ cmCells x)) (hg : W1.grownBy W2 vm.ownBlock) : Cpy (W2.setCell ⟨ob, 1, none⟩ v2) ob base ve v2 es (ms ++ [x]) ∧ W2.heap[ob]? = some (.cells #[ve, vm] 25 (0, 0)) ∧ ∀ g, g < wr.heap.size → g ≠ ob → vm.ownBlock ≠ some g → (W2.setCell ⟨ob, 1, none⟩ v2).heap[g]? = wr.heap[g]? ∧ W2.heap[g]? = wr.heap[g]? := by
  have he1 := own_below h.c_e hb
  have hm1 := own_below h.c_m hb
  have hob := lt_of_block h.c_box
  have hb1 : W1.heap[ob]? = some (.cells #[ve, vm] 25 (0, 0)) := (hb.block ob hob).trans h.c_box
  have n1 : vm.ownBlock ≠ some ob := own_other hm1 hb1 (by decide)
  have hb2 : W2.heap[ob]? = some (.cells #[ve, vm] 25 (0, 0)) := (grown_at hg (lt_of_block hb1) n1).trans hb1
  have he2 : W2.ownsRow base 42 2 ve es.length (es.flatMap ceCells) := own_block he1 (fun k hk => grown_at hg (he1.lt k hk).2 (own_own hm1 he1 (by decide) hk))
  have n2 : ve.ownBlock ≠ some ob := own_other he2 hb2 (by decide)
  have n3 : v2.ownBlock ≠ some ob := own_other ho hb2 (by decide)
  have s1 : Stays base W1 (W2.setCell ⟨ob, 1, none⟩ v2) := stays_trans (stays_grown hm1 hg (.inr rfl)) (stays_set hb2 1 v2)
  have s0 : Stays base wr (W2.setCell ⟨ob, 1, none⟩ v2) := stays_trans (stays_below hb) s1
  refine ⟨⟨?_, ?_, ?_, ?_, ?_, ?_⟩, hb2, fun g hgl hgo hgv => ?_⟩
  · have := obj_set hb2 1 v2
    simpa using this
  · exact own_block he2 (fun k hk => Below.heap_setCell W2 ⟨ob, 1, none⟩ v2 k (fun e => n2 (by rw [hk]; exact congrArg some e)))
  · rw [List.length_append, List.flatMap_append, List.flatMap_cons, List.flatMap_nil, List.append_nil]
    exact own_block ho (fun k hk => Below.heap_setCell W2 ⟨ob, 1, none⟩ v2 k (fun e => n3 (by rw [hk]; exact congrArg some e)))
  · exact fun y hy => typed_keep (h.c_v y hy) s0 (by decide) (fun _ _ h => h)
  · intro y hy
    rcases List.mem_append.mp hy with hy | hy
    · exact typed_keep (h.c_f y hy) s0 (by decide) (fun _ _ h => h)
    · obtain rfl : y = x := by simpa using hy
      exact typed_keep hx s1 (by decide) (fun _ _ h => h)
  · intro y hy
    rcases List.mem_append.mp hy with hy | hy
    · exact typed_keep (h.c_b y hy) s0 (by decide) (fun _ _ h => h)
    · obtain rfl : y = x := by simpa using hy
      exact typed_keep hx2 s1 (by decide) (fun _ _ h => h)
  · exact ⟨by rw [Below.heap_setCell W2 ⟨ob, 1, none⟩ v2 g hgo, grown_at hg (by have := hb.size; omega) hgv, hb.block g hgl], by rw [grown_at hg (by have := hb.size; omega) hgv, hb.block g hgl]⟩
/-- What a copy reads as. -/
theorem cpy_reads {wr : World} {ob base : Nat} {ve vm : Value} {es : List CE} {ms : List CM} {s : Sc} (h : Cpy wr ob base ve vm es ms) (he : es.map CE.ce_e = s.enums) (hm : ms.map CM.cm_m = s.msgs) :
    ∃ A n cap A2 n2 cap2, ve = .slice A n cap ∧ vm = .slice A2 n2 cap2 ∧ ScAt (Typed base wr) wr A n cap A2 n2 cap2 s := by
  obtain ⟨_, A, cap, rfl, h1⟩ := lst_own_typed (k := 2) (f := ceCells) (R := fun w cs (x : CE) => cs = ceCells x ∧ Lst 2 (Typed base wr 0) vlR w x.ce_a x.ce_c x.ce_e.values) (by decide) (fun _ => rfl) (fun x hx => ⟨rfl, h.c_v x hx⟩) h.c_e
  obtain ⟨_, A2, cap2, rfl, h2⟩ := lst_own_typed (k := 3) (f := cmCells) (R := fun w cs (x : CM) => cs = cmCells x ∧ Lst 7 (Typed base wr 1) fdR w x.cm_a x.cm_c x.cm_m.fields ∧ Lst 1 (Typed base wr 2) inR w x.cm_b x.cm_d x.cm_m.barred) (by decide) (fun _ => rfl) (fun x hx => ⟨rfl, h.c_f x hx, h.c_b x hx⟩) h.c_m
  refine ⟨A, _, cap, A2, _, cap2, rfl, rfl, ⟨?_, ?_, by rw [← he, List.length_map], by rw [← hm, List.length_map]⟩⟩
  · rw [← he]
    exact lst_map CE.ce_e h1 (fun x _ cs ⟨e, hl⟩ => ⟨x.ce_a, x.ce_c, e, hl⟩)
  · rw [← hm]
    exact lst_map CM.cm_m h2 (fun x _ cs ⟨e, hl, hl2⟩ => ⟨x.cm_a, x.cm_c, x.cm_b, x.cm_d, e, hl, hl2⟩)
end Go.Proofs.YtpbhokmpbcmdcaaGreatDoor

/- A copy of a schema that is being changed in memory: what stays as it was. Conditions: those that each theorem names. -/
namespace Go.Proofs.YtpbhokmpbcmdcaaGreatDoor
open Go.RowKit
set_option linter.unusedVariables false
set_option maxRecDepth 100000

/-- Cell j of thing i of a row holds v; the row lies in a block of that kind, between the two. -/
def Hd (base top : Nat) (w : World) (t : TypeId) (A : Option Addr) (st i j : Nat) (v : Value) : Prop :=
  ∃ g o cs, A = some ⟨g, o, none⟩ ∧ base ≤ g ∧ g < top ∧ w.heap[g]? = some (.cells cs t (0, 0)) ∧ cs[o + i * st + j]? = some v
section
variable {base top : Nat} {w w' : World} {t t0 : TypeId} {A : Option Addr} {st i j g g0 o0 j0 : Nat} {v u : Value} {cs cs0 : Array Value}
theorem hd_of {k off : Nat} (hS : Typed base w k g) (hc : w.cell? ⟨g, off + i * st + j, none⟩ = some v) : Hd base w.heap.size w (tyK k) (some ⟨g, off, none⟩) st i j v := by
  obtain ⟨hb, cs, hg⟩ := hS
  exact ⟨g, off, cs, rfl, hb, lt_of_block hg, hg, by rw [← hc, obj_cell hg]⟩
theorem set_keeps (h : w.heap[g]? = some (.cells cs t (0, 0))) : ∃ cs' : Array Value, (w.setCell ⟨g0, j0, none⟩ u).heap[g]? = some (.cells cs' t (0, 0)) ∧ (∀ j : Nat, (g ≠ g0 ∨ j ≠ j0) → cs'[j]? = cs[j]?) ∧ ∀ (j : Nat) (v : Value), cs[j]? = some v → ∃ v', cs'[j]? = some v' := by
  by_cases e : g = g0
  · subst e
    refine ⟨_, obj_set h j0 u, fun j hj => ?_, fun j v hv => ?_⟩
    · rcases hj with hj | hj
      · exact absurd rfl hj
      · exact Array.getElem?_setIfInBounds_ne (Ne.symm hj)
    · have hlt : j < (cs.setIfInBounds j0 u).size := by rw [Array.size_setIfInBounds]; exact (Array.getElem?_eq_some_iff.mp hv).1
      exact ⟨_, Array.getElem?_eq_getElem hlt⟩
  · exact ⟨cs, (Below.heap_setCell w ⟨g0, j0, none⟩ u g e).trans h, fun _ _ => rfl, fun _ v hv => ⟨v, hv⟩⟩
theorem hd_any (h : Hd base top w t A st i j v) : ∃ v', Hd base top (w.setCell ⟨g0, j0, none⟩ u) t A st i j v' := by
  obtain ⟨g, o, cs, e, h1, h2, h3, h4⟩ := h
  obtain ⟨cs', k1, _, k3⟩ := set_keeps (g0 := g0) (j0 := j0) (u := u) h3
  obtain ⟨v', hv⟩ := k3 _ _ h4
  exact ⟨v', g, o, cs', e, h1, h2, k1, hv⟩
theorem hd_some (h : ∃ v, Hd base top w t A st i j v) : ∃ v', Hd base top (w.setCell ⟨g0, j0, none⟩ u) t A st i j v' := by
  obtain ⟨v, h⟩ := h
  exact hd_any h
theorem hd_type (h : Hd base top w t A st i j v) (h0 : w.heap[g0]? = some (.cells cs0 t0 (0, 0))) (ht : t0 ≠ t) : Hd base top (w.setCell ⟨g0, j0, none⟩ u) t A st i j v := by
  obtain ⟨g, o, cs, e, h1, h2, h3, h4⟩ := h
  obtain ⟨cs', k1, k2, _⟩ := set_keeps (g0 := g0) (j0 := j0) (u := u) h3
  refine ⟨g, o, cs', e, h1, h2, k1, (k2 _ (.inl fun e0 => ?_)).trans h4⟩
  subst e0
  rw [h0] at h3
  injection h3 with h3
  injection h3 with _ e2
  exact ht e2
theorem hd_place (h : Hd base top w t (some ⟨g0, o0, none⟩) st i j v) (hj : o0 + i * st + j ≠ j0) : Hd base top (w.setCell ⟨g0, j0, none⟩ u) t (some ⟨g0, o0, none⟩) st i j v := by
  obtain ⟨g, o, cs, e, h1, h2, h3, h4⟩ := h
  injection e with e
  injection e with e1 e2
  subst e1 e2
  obtain ⟨cs', k1, k2, _⟩ := set_keeps (g0 := g0) (j0 := j0) (u := u) h3
  exact ⟨g0, o0, cs', rfl, h1, h2, k1, (k2 _ (.inr hj)).trans h4⟩
theorem hd_bel (h : Hd base top w t A st i j v) (hb : Below w.heap.size w w') : Hd base top w' t A st i j v := by
  obtain ⟨g, o, cs, e, h1, h2, h3, h4⟩ := h
  exact ⟨g, o, cs, e, h1, h2, (hb.block g (lt_of_block h3)).trans h3, h4⟩
/-- What a walk asks for: the cell, and that it may be written to. -/
theorem hd_cell (h : Hd base top w t A st i j v) : ∃ g o cs, A = some ⟨g, o, none⟩ ∧ base ≤ g ∧ g < top ∧ w.heap[g]? = some (.cells cs t (0, 0)) ∧ w.cell? ⟨g, o + i * st + j, none⟩ = some v ∧ w.frozen? ⟨g, o + i * st + j, none⟩ = false := by
  obtain ⟨g, o, cs, e, h1, h2, h3, h4⟩ := h
  exact ⟨g, o, cs, e, h1, h2, h3, (obj_cell h3 _).trans h4, obj_free h3 _⟩
end

def ShM (base top : Nat) (w : World) (B : Option Addr) (i : Nat) (x : Ms) : Prop :=
  ∃ A c A' c', (∃ v, Hd base top w 37 B 3 i 0 v) ∧ Hd base top w 37 B 3 i 1 (.slice A x.fields.length c) ∧ Hd base top w 37 B 3 i 2 (.slice A' x.barred.length c') ∧ (x.fields.length ≤ c ∧ c ≤ maxLen ∧ x.barred.length ≤ c' ∧ c' ≤ maxLen) ∧
    (∀ k, k < x.fields.length → ∃ v, Hd base top w 39 A 7 k 0 v) ∧ ∀ k, k < x.barred.length → ∃ v, Hd base top w 3 A' 1 k 0 v
def ShE (base top : Nat) (w : World) (B : Option Addr) (i : Nat) (x : En) : Prop :=
  ∃ A c, (∃ v, Hd base top w 42 B 2 i 0 v) ∧ Hd base top w 42 B 2 i 1 (.slice A x.values.length c) ∧ (x.values.length ≤ c ∧ c ≤ maxLen) ∧ ∀ k, k < x.values.length → ∃ v, Hd base top w 44 A 2 k 1 v
/-- A schema whose shape stands: how many things, and where. -/
structure Shp (base top : Nat) (w : World) (B B2 : Option Addr) (s : Sc) : Prop where
  sh_m : ∀ i x, s.msgs[i]? = some x → ShM base top w B2 i x
  sh_e : ∀ i x, s.enums[i]? = some x → ShE base top w B i x

section
variable {base top : Nat} {w w' : World} {B B2 : Option Addr} {s : Sc} {g0 o0 j0 : Nat} {u : Value} {cs0 : Array Value} {t0 : TypeId}
theorem shp_of {m cb m2 cb2 : Nat} (h : ScAt (Typed base w) w B m cb B2 m2 cb2 s) : Shp base w.heap.size w B B2 s where
  sh_m := fun i x hi => by
    obtain ⟨g, off, cs, rfl, hS, _, ⟨A, cap, A2, cap2, rfl, hf, hb⟩, hc⟩ := h.s_m.l_at i x hi
    refine ⟨A, cap, A2, cap2, ⟨_, hd_of hS (hc 0 _ rfl)⟩, hd_of hS (hc 1 _ rfl), hd_of hS (hc 2 _ rfl), ⟨hf.l_le, hf.l_max, hb.l_le, hb.l_max⟩, fun k hk => ?_, fun k hk => ?_⟩
    · obtain ⟨y, _, g1, o1, cs1, rfl, hS1, _, rfl, hc1⟩ := lst_get hf hk
      exact ⟨_, hd_of hS1 (hc1 0 _ rfl)⟩
    · obtain ⟨y, _, g1, o1, cs1, rfl, hS1, _, rfl, hc1⟩ := lst_get hb hk
      exact ⟨_, hd_of hS1 (hc1 0 _ rfl)⟩
  sh_e := fun i x hi => by
    obtain ⟨g, off, cs, rfl, hS, _, ⟨A, cap, rfl, hf⟩, hc⟩ := h.s_e.l_at i x hi
    refine ⟨A, cap, ⟨_, hd_of hS (hc 0 _ rfl)⟩, hd_of hS (hc 1 _ rfl), ⟨hf.l_le, hf.l_max⟩, fun k hk => ?_⟩
    obtain ⟨y, _, g1, o1, cs1, rfl, hS1, _, rfl, hc1⟩ := lst_get hf hk
    exact ⟨_, hd_of hS1 (hc1 1 _ rfl)⟩
theorem shp_bel (h : Shp base top w B B2 s) (hb : Below w.heap.size w w') : Shp base top w' B B2 s where
  sh_m := fun i x hi => by
    obtain ⟨A, c, A', c', ⟨v, h0⟩, h1, h2, hl, h3, h4⟩ := h.sh_m i x hi
    exact ⟨A, c, A', c', ⟨v, hd_bel h0 hb⟩, hd_bel h1 hb, hd_bel h2 hb, hl, fun k hk => (h3 k hk).elim fun v e => ⟨v, hd_bel e hb⟩, fun k hk => (h4 k hk).elim fun v e => ⟨v, hd_bel e hb⟩⟩
  sh_e := fun i x hi => by
    obtain ⟨A, c, ⟨v, h0⟩, h1, hl, h3⟩ := h.sh_e i x hi
    exact ⟨A, c, ⟨v, hd_bel h0 hb⟩, hd_bel h1 hb, hl, fun k hk => (h3 k hk).elim fun v e => ⟨v, hd_bel e hb⟩⟩
/-- A write into a row of fields, of numbers or of values. -/
theorem shp_free (h : Shp base top w B B2 s) (h0 : w.heap[g0]? = some (.cells cs0 t0 (0, 0))) (ht : t0 ≠ 37) (ht2 : t0 ≠ 42) : Shp base top (w.setCell ⟨g0, j0, none⟩ u) B B2 s where
  sh_m := fun i x hi => by
    obtain ⟨A, c, A', c', hv, h1, h2, hl, h3, h4⟩ := h.sh_m i x hi
    exact ⟨A, c, A', c', hd_some hv, hd_type h1 h0 ht, hd_type h2 h0 ht, hl, fun k hk => hd_some (h3 k hk), fun k hk => hd_some (h4 k hk)⟩
  sh_e := fun i x hi => by
    obtain ⟨A, c, hv, h1, hl, h3⟩ := h.sh_e i x hi
    exact ⟨A, c, hd_some hv, hd_type h1 h0 ht2, hl, fun k hk => hd_some (h3 k hk)⟩
/-- A write of a message's name. -/
theorem shp_ms (h : Shp base top w B (some ⟨g0, o0, none⟩) s) (h0 : w.heap[g0]? = some (.cells cs0 37 (0, 0))) (k0 : Nat) : Shp base top (w.setCell ⟨g0, o0 + k0 * 3, none⟩ u) B (some ⟨g0, o0, none⟩) s where
  sh_m := fun i x hi => by
    obtain ⟨A, c, A', c', hv, h1, h2, hl, h3, h4⟩ := h.sh_m i x hi
    exact ⟨A, c, A', c', hd_some hv, hd_place h1 (by omega), hd_place h2 (by omega), hl, fun k hk => hd_some (h3 k hk), fun k hk => hd_some (h4 k hk)⟩
  sh_e := fun i x hi => by
    obtain ⟨A, c, hv, h1, hl, h3⟩ := h.sh_e i x hi
    exact ⟨A, c, hd_some hv, hd_type h1 h0 (by decide), hl, fun k hk => hd_some (h3 k hk)⟩
/-- A write of an enum's name. -/
theorem shp_en (h : Shp base top w (some ⟨g0, o0, none⟩) B2 s) (h0 : w.heap[g0]? = some (.cells cs0 42 (0, 0))) (k0 : Nat) : Shp base top (w.setCell ⟨g0, o0 + k0 * 2, none⟩ u) (some ⟨g0, o0, none⟩) B2 s where
  sh_m := fun i x hi => by
    obtain ⟨A, c, A', c', hv, h1, h2, hl, h3, h4⟩ := h.sh_m i x hi
    exact ⟨A, c, A', c', hd_some hv, hd_type h1 h0 (by decide), hd_type h2 h0 (by decide), hl, fun k hk => hd_some (h3 k hk), fun k hk => hd_some (h4 k hk)⟩
  sh_e := fun i x hi => by
    obtain ⟨A, c, hv, h1, hl, h3⟩ := h.sh_e i x hi
    exact ⟨A, c, hd_some hv, hd_place h1 (by omega), hl, fun k hk => hd_some (h3 k hk)⟩
end

/-- All but the blocks between the two is as it was. -/
structure Mutd (base top : Nat) (w w' : World) : Prop where
  m_os : w'.os = w.os
  m_tape : w'.tape = w.tape
  m_output : w'.output = w.output
  m_size : w'.heap.size = w.heap.size
  m_block : ∀ g, g < base ∨ top ≤ g → w'.heap[g]? = w.heap[g]?
section
variable {base top : Nat} {a w w' : World}
theorem mutd_refl (base top : Nat) (w : World) : Mutd base top w w := ⟨rfl, rfl, rfl, rfl, fun _ _ => rfl⟩
theorem mutd_set (h : Mutd base top a w) {g0 j0 : Nat} (h1 : base ≤ g0) (h2 : g0 < top) (u : Value) : Mutd base top a (w.setCell ⟨g0, j0, none⟩ u) :=
  ⟨h.m_os, h.m_tape, h.m_output, (by simp [World.setCell] : (w.setCell ⟨g0, j0, none⟩ u).heap.size = w.heap.size).trans h.m_size, fun g hg => (Below.heap_setCell w ⟨g0, j0, none⟩ u g (by show g ≠ g0; omega)).trans (h.m_block g hg)⟩
theorem mutd_below {B : Nat} {o : World} (h : Mutd base top a w) (hb : Below B o a) (hB : B ≤ base) : Below B o w :=
  hb.trans ⟨h.m_os, h.m_tape, h.m_output, by rw [h.m_size]; exact Nat.le_refl _, fun g hg => h.m_block g (.inl (by omega))⟩
theorem scAt_mutd {S T : Nat → Nat → Prop} {A A2 : Option Addr} {n cap n2 cap2 : Nat} {s : Sc} (h : ScAt S a A n cap A2 n2 cap2 s) (hm : Mutd base top a w) (hS : ∀ k g, S k g → T k g ∧ (g < base ∨ top ≤ g)) : ScAt T w A n cap A2 n2 cap2 s :=
  have hk : ∀ k (p : Addr), S k p.block → p.block < a.heap.size → w.cell? p = a.cell? p := fun k p hp _ => World.cell?_of_block (hm.m_block p.block (hS k _ hp).2)
  ⟨lst_keep h.s_e (enR_keep (fun k g hg => (hS k g hg).1) hk) (fun g hg => (hS 3 g hg).1) (hk 3), lst_keep h.s_m (msR_keep (fun k g hg => (hS k g hg).1) hk) (fun g hg => (hS 4 g hg).1) (hk 4), h.s_ne, h.s_nm⟩
end
end Go.Proofs.YtpbhokmpbcmdcaaGreatDoor
