/- Several texts in one: PdH, PdI, PdJ. What each proves, and its conditions, stands at its own head. -/
import Derived.Test.YtpfdnggacpehdaaGreatDoorPkDU40
import Derived.Test.YtpfdnggacpehdaaGreatDoorPkDU45
import Derived.Test.YtpfdnggacpehdaaGreatDoorPkDU37
/- Trees that are being read: each in blocks of its own (no program's function here). Conditions: those that each theorem names. -/
namespace Go.Proofs.YtpfdnggacpehdaaGreatDoor
open Go.RowKit
set_option linter.unusedVariables false
set_option maxRecDepth 100000

/-- A value's messages: none, or one, in its block. -/
def mkR (T : (Nat → Prop) → World → Nat → Tr → Prop) (F : Nat → Prop) (w : World) (h : Value) (l : List Tr) : Prop := match l with
  | [] => h = .slice none 0 0
  | [x] => ∃ g, h = .slice (some ⟨g, 0, none⟩) 1 1 ∧ T F w g x
  | _ => False
def mvC (T : (Nat → Prop) → World → Nat → Tr → Prop) (F : Nat → Nat → Prop) (w : World) (c : List Value) (y : Va × Nat) : Prop := ∃ A n d, c = [.int .u64 (y.1.vn : Int), .string (strOf y.1.vs), .slice A n d] ∧ mkR T (F y.2) w (.slice A n d) y.1.vm
/-- Values in a row of their own, the messages within in blocks of their own. -/
structure MVr (T : (Nat → Prop) → World → Nat → Tr → Prop) (E : Nat → Prop) (K : Nat) (w : World) (v : Value) (l : List Va) (F : Nat → Nat → Prop) : Prop where
  v_sub : ∀ j b, F j b → E b
  v_dis : ∀ i j b, F i b → F j b → i = j
  v_blk : ∀ b, v.ownBlock = some b → E b ∧ ∀ j, ¬ F j b
  v_row : OwnL K 65 3 (mvC T F w) w v l.zipIdx
def MV (T : (Nat → Prop) → World → Nat → Tr → Prop) (E : Nat → Prop) (K : Nat) (w : World) (v : Value) (l : List Va) : Prop := ∃ F, MVr T E K w v l F
def slC (T : (Nat → Prop) → World → Nat → Tr → Prop) (E : Int → Nat → Prop) (K : Nat) (w : World) (c : List Value) (y : Slt) : Prop := ∃ A n d, c = [.int .i64 y.snum, .slice A n d] ∧ MV T (E y.snum) K w (.slice A n d) y.svals
def rwC (c : List Value) (x : Rw) : Prop := c = rawCells x
/-- An open tree. -/
structure OpT (T : (Nat → Prop) → World → Nat → Tr → Prop) (K : Nat) (D : Nat → Prop) (w : World) (g : Nat) (vs vr : Value) (E : Int → Nat → Prop) (x : Tr) : Prop where
  o_hd : HdT (slC T E K w) K w g vs vr x.slots
  o_rest : OwnL K 98 4 rwC w vr x.rest
  o_g : D g
  o_s : ∀ b, vs.ownBlock = some b → D b ∧ ∀ n, ¬ E n b
  o_r : ∀ b, vr.ownBlock = some b → D b ∧ ∀ n, ¬ E n b
  o_E : ∀ n b, E n b → D b ∧ b ≠ g
  o_dis : ∀ n m b, E n b → E m b → n = m
  o_lt : ∀ b, D b → b < w.heap.size ∧ (b = g ∨ K ≤ b)
/-- A tree in its block, all of whose blocks are of D. -/
def MT (K : Nat) : Nat → (Nat → Prop) → World → Nat → Tr → Prop
  | 0 => fun _ _ _ _ => False
  | k + 1 => fun D w g x => ∃ vs vr E, OpT (MT K k) K D w g vs vr E x
theorem shape_ms (T : (Nat → Prop) → World → Nat → Tr → Prop) (E : Int → Nat → Prop) (K : Nat) (w : World) : Shape (slC T E K w) := fun c y ⟨A, n, d, e, _⟩ => ⟨A, n, d, e⟩

/-! ### What is kept -/
section
variable {T T' : (Nat → Prop) → World → Nat → Tr → Prop} {K : Nat} {w w' : World} {D0 : Nat → Prop}
theorem mkR_keep {F : Nat → Prop} (hT : ∀ g x, T F w g x → T' F w' g x) {h : Value} : ∀ {l : List Tr}, mkR T F w h l → mkR T' F w' h l
  | [], e => e
  | [x], ⟨g, e, h⟩ => ⟨g, e, hT g x h⟩
  | _ :: _ :: _, h => h.elim
theorem mvr_keep {E : Nat → Prop} {v : Value} {l : List Va} {F : Nat → Nat → Prop} (hT : ∀ j g x, T (F j) w g x → T' (F j) w' g x) (hb : ∀ b, v.ownBlock = some b → w'.heap[b]? = w.heap[b]?) (h : MVr T E K w v l F) : MVr T' E K w' v l F :=
  ⟨h.v_sub, h.v_dis, h.v_blk, ownL_keep h.v_row (fun c y ⟨A, n, d, e, hm⟩ => ⟨A, n, d, e, mkR_keep (hT y.2) hm⟩) hb⟩
theorem mv_keep {E : Nat → Prop} {v : Value} {l : List Va} (hT : ∀ F : Nat → Prop, (∀ b, F b → E b) → ∀ g x, T F w g x → T' F w' g x) (hb : ∀ b, E b → w'.heap[b]? = w.heap[b]?) (h : MV T E K w v l) : MV T' E K w' v l := by
  obtain ⟨F, h⟩ := h
  exact ⟨F, mvr_keep (fun j g x hx => hT (F j) (fun b hb => h.v_sub j b hb) g x hx) (fun b hk => hb b (h.v_blk b hk).1) h⟩
theorem ms_keep {E : Int → Nat → Prop} (hT : ∀ (n : Int) (F : Nat → Prop), (∀ b, F b → E n b) → ∀ g x, T F w g x → T' F w' g x) (hb : ∀ n b, E n b → w'.heap[b]? = w.heap[b]?) : ∀ c y, slC T E K w c y → slC T' E K w' c y :=
  fun c y ⟨A, n, d, e, h⟩ => ⟨A, n, d, e, mv_keep (hT y.snum) (hb y.snum) h⟩
theorem mt_keep : ∀ (k : Nat) {D : Nat → Prop} {g : Nat} {x : Tr}, (∀ b, D b → w'.heap[b]? = w.heap[b]?) → w.heap.size ≤ w'.heap.size → MT K k D w g x → MT K k D w' g x
  | 0, _, _, _, _, _, h => h.elim
  | k + 1, D, g, x, hb, hs, ⟨vs, vr, E, h⟩ => by
    refine ⟨vs, vr, E, ?_, ownL_keep h.o_rest (fun _ _ h => h) (fun b hk => hb b (h.o_r b hk).1), h.o_g, h.o_s, h.o_r, h.o_E, h.o_dis, fun b hd => ⟨Nat.lt_of_lt_of_le (h.o_lt b hd).1 hs, (h.o_lt b hd).2⟩⟩
    have h1 := h.o_hd.keep (hb g h.o_g) (fun b hk => hb b (h.o_s b hk).1) hs
    exact ⟨h1.h_blk, ownL_keep h1.h_row (ms_keep (fun n F hF g x hx => mt_keep k (fun b hbF => hb b (h.o_E n b (hF b hbF)).1) hs hx) (fun n b hE => hb b (h.o_E n b hE).1)) (fun _ _ => rfl), h1.h_rise, h1.h_len, h1.h_base⟩
theorem opT_keep {k : Nat} {D : Nat → Prop} {g : Nat} {vs vr : Value} {E : Int → Nat → Prop} {x : Tr} (hb : ∀ b, D b → w'.heap[b]? = w.heap[b]?) (hs : w.heap.size ≤ w'.heap.size) (h : OpT (MT K k) K D w g vs vr E x) : OpT (MT K k) K D w' g vs vr E x := by
  refine ⟨?_, ownL_keep h.o_rest (fun _ _ h => h) (fun b hk => hb b (h.o_r b hk).1), h.o_g, h.o_s, h.o_r, h.o_E, h.o_dis, fun b hd => ⟨Nat.lt_of_lt_of_le (h.o_lt b hd).1 hs, (h.o_lt b hd).2⟩⟩
  have h1 := h.o_hd.keep (hb g h.o_g) (fun b hk => hb b (h.o_s b hk).1) hs
  exact ⟨h1.h_blk, ownL_keep h1.h_row (ms_keep (fun n F hF g x hx => mt_keep k (fun b hbF => hb b (h.o_E n b (hF b hbF)).1) hs hx) (fun n b hE => hb b (h.o_E n b hE).1)) (fun _ _ => rfl), h1.h_rise, h1.h_len, h1.h_base⟩
theorem opT_bel {k : Nat} {D : Nat → Prop} {g : Nat} {vs vr : Value} {E : Int → Nat → Prop} {x : Tr} (hb : Below w.heap.size w w') (h : OpT (MT K k) K D w g vs vr E x) : OpT (MT K k) K D w' g vs vr E x :=
  opT_keep (fun b hd => hb.block b (h.o_lt b hd).1) hb.size h
/-- An empty tree in a new block. -/
theorem mt_new (k : Nat) (w : World) {g : Nat} (hg : w.heap[g]? = some (.cells #[.slice none 0 0, .slice none 0 0] 33 (0, 0))) (hK : K ≤ w.heap.size) : MT K (k + 1) (fun b => b = g) w g default := by
  refine ⟨.slice none 0 0, .slice none 0 0, fun _ _ => False, ⟨hg, ownL_nil _ _ _ _ _, List.Pairwise.nil, Nat.zero_le _, hK⟩, ownL_nil _ _ _ _ _, rfl, fun b hb => by simp [Value.ownBlock] at hb, fun b hb => by simp [Value.ownBlock] at hb, fun _ _ h => h.elim, fun _ _ _ h => h.elim, fun b hb => ?_⟩
  subst hb
  exact ⟨lt_of_block hg, .inl rfl⟩
end
end Go.Proofs.YtpfdnggacpehdaaGreatDoor

/- Trees that are being read: values laid behind others, a slot made anew (no program's function here). Conditions: those that each theorem names. -/
namespace Go.Proofs.YtpfdnggacpehdaaGreatDoor
open Go.RowKit
set_option linter.unusedVariables false
set_option maxRecDepth 100000

theorem mt_iff {K : Nat} {w : World} {D D' : Nat → Prop} (hD : ∀ b, D b ↔ D' b) : ∀ {k : Nat} {g : Nat} {x : Tr}, MT K k D w g x → MT K k D' w g x := by
  have e : D = D' := funext fun b => propext (hD b)
  subst e
  intro k g x h
  exact h
theorem mkR_keep2 {T T' : (Nat → Prop) → World → Nat → Tr → Prop} {w w' : World} {F F' : Nat → Prop} (hT : ∀ g x, T F w g x → T' F' w' g x) {h : Value} : ∀ {l : List Tr}, mkR T F w h l → mkR T' F' w' h l
  | [], e => e
  | [x], ⟨g, e, h⟩ => ⟨g, e, hT g x h⟩
  | _ :: _ :: _, h => h.elim
theorem zipIdx_at {α : Type} {l : List α} {j : Nat} {y : α × Nat} (h : l.zipIdx[j]? = some y) : l[j]? = some y.1 ∧ y.2 = j := by
  rw [List.getElem?_zipIdx] at h
  cases hx : l[j]? with
  | none => rw [hx] at h; cases h
  | some x =>
    rw [hx] at h
    simp at h
    subst h
    exact ⟨rfl, by simp⟩
/-- Things by their places. -/
theorem ownL_zip {α : Type} {base k : Nat} {t : TypeId} {R : List Value → α → Prop} {R' : List Value → α × Nat → Prop} {w : World} {v : Value} {l : List α} (h : OwnL base t k R w v l) (hR : ∀ c x j, R c x → R' c (x, j)) : OwnL base t k R' w v l.zipIdx := by
  obtain ⟨css, h1, h2, h3⟩ := h
  refine ⟨css, by rw [List.length_zipIdx]; exact h1, fun j c y hc hy => ?_, by rw [List.length_zipIdx]; exact h3⟩
  obtain ⟨e1, e2⟩ := zipIdx_at hy
  obtain ⟨a, b, c'⟩ := h2 j c y.1 hc e1
  obtain ⟨y1, y2⟩ := y
  exact ⟨a, b, hR c y1 y2 c'⟩
section
variable {K k : Nat} {w w' : World}
/-- Values that are no messages, in a row of their own. -/
theorem mv_of_rv {T : (Nat → Prop) → World → Nat → Tr → Prop} {E : Nat → Prop} {base : Nat} {v : Value} {l : List Va} (h : OwnL base 65 3 RV w v l) (hb : K ≤ base) (hE : ∀ b, v.ownBlock = some b → E b) : MV T E K w v l :=
  ⟨fun _ _ => False, fun _ _ h => h.elim, fun _ _ _ h => h.elim, fun b hk => ⟨hE b hk, fun _ h => h⟩, ownL_less (ownL_zip h (fun c x j ⟨h1, h2⟩ => ⟨none, 0, 0, h2, by show mkR T _ w _ x.vm; rw [h1]; rfl⟩)) hb⟩
theorem mv_nil {T : (Nat → Prop) → World → Nat → Tr → Prop} (E : Nat → Prop) (w : World) : MVr T E K w (.slice none 0 0) [] (fun _ _ => False) :=
  ⟨fun _ _ h => h.elim, fun _ _ _ h => h.elim, fun b hk => by simp [Value.ownBlock] at hk, ownL_nil _ _ _ _ _⟩
theorem mvr_len {T : (Nat → Prop) → World → Nat → Tr → Prop} {E : Nat → Prop} {v : Value} {l : List Va} {F : Nat → Nat → Prop} (h : MVr T E K w v l F) : ∃ A c, v = .slice A l.length c ∧ l.length ≤ c ∧ c ≤ maxLen := by
  have := ownL_form h.v_row
  rwa [List.length_zipIdx] at this
/-- Values laid behind. -/
theorem mv_append {E : Nat → Prop} {v : Value} {a : List Va} {F : Nat → Nat → Prop} (h : MVr (MT K k) E K w v a F) (css : List (List Value)) (l : List Va) (G : Nat → Nat → Prop)
    (hcl : css.length = l.length) (hc : ∀ j c y, css[j]? = some c → l[j]? = some y → c.length = 3 ∧ (∀ u ∈ c, u.oneCell' = true) ∧ mvC (MT K k) G w c (y, a.length + j))
    (hG : ∀ j b, G j b → b < w.heap.size ∧ ¬ E b ∧ a.length ≤ j) (hGd : ∀ i j b, G i b → G j b → i = j) (hE : ∀ b, E b → b < w.heap.size)
    (q : Addr) (hq : ∀ j u, css.flatten[j]? = some u → w.cell? (q.add j) = some u) (m d : Nat) (hm : m = l.length) (hla : a.length ≤ 1000000) (hll : l.length ≤ 1000000) (hK : K ≤ w.heap.size) (ty : TypeId) :
    ∃ v' w', (Builtin.append_ #[66, 66] ty #[v, .slice (some q) m d]).run Tryz.prog w = .ok v' w' ∧ MVr (MT K k) (fun b => E b ∨ v'.ownBlock = some b ∨ ∃ j, G j b) K w' v' (a ++ l) (fun j b => (j < a.length ∧ F j b) ∨ (a.length ≤ j ∧ G j b)) ∧ w.grownBy w' v.ownBlock ∧ Moved w v v' := by
  obtain ⟨css0, h1, h2, h3⟩ := h.v_row
  rw [List.length_zipIdx] at h1 h3
  obtain ⟨i, i1, i2, i3, i4⟩ := info_ofs info_val
  have hfl : ∀ {cs : List (List Value)}, (∀ c ∈ cs, c.length = 3) → cs.flatten.length = cs.length * 3 := fun {cs} => by
    intro hh
    induction cs with
    | nil => rfl
    | cons c cs ih =>
      rw [List.flatten_cons, List.length_append, hh c (by simp), ih (fun d hd => hh d (by simp [hd])), List.length_cons]; omega
  have hc3 : ∀ c ∈ css, c.length = 3 ∧ ∀ u ∈ c, u.oneCell' = true := fun c hcm => by
    obtain ⟨j, hj, e⟩ := List.mem_iff_getElem.mp hcm
    have h9 := hc j c l[j] (by rw [List.getElem?_eq_getElem hj, e]) (List.getElem?_eq_getElem (by omega))
    exact ⟨h9.1, h9.2.1⟩
  obtain ⟨v', w', hr, ho, hg, hmv⟩ := run_append_own2 (P := Tryz.prog) w K 66 ty 65 i _ 3 48 Tryz.underlying66 i1 i2 i3 i4 rfl (by decide) v a.length css0.flatten h3 q m d css.flatten (by rw [hfl (fun c hcm => (hc3 c hcm).1), hcl, hm]) hq (fun u hu => by
    obtain ⟨c, hcm, hu⟩ := List.mem_flatten.mp hu
    exact (hc3 c hcm).2 u hu) (by unfold maxLen; omega) (by omega) hK
  refine ⟨v', w', hr, ?_, hg, hmv⟩
  have hv0 : ∀ b, v.ownBlock = some b → b < w.heap.size := fun b hb => (h3.lt b hb).2
  have keepT : ∀ (D : Nat → Prop), (∀ b, D b → b < w.heap.size ∧ v.ownBlock ≠ some b) → ∀ g x, MT K k D w g x → MT K k D w' g x := fun D hD g x hx => mt_keep k (fun b hb => hg.block b (hD b hb).1 (fun e => (hD b hb).2 e.symm)) hg.size hx
  have hFE : ∀ j b, F j b → b < w.heap.size ∧ v.ownBlock ≠ some b := fun j b hb => ⟨hE b (h.v_sub j b hb), fun e => (h.v_blk b e).2 j hb⟩
  have hGE : ∀ j b, G j b → b < w.heap.size ∧ v.ownBlock ≠ some b := fun j b hb => ⟨(hG j b hb).1, fun e => (hG j b hb).2.1 (h.v_blk b e).1⟩
  refine ⟨fun j b hb => ?_, fun i j b hi hj => ?_, fun b hb => ⟨.inr (.inl hb), fun j hj => ?_⟩, ?_⟩
  · rcases hb with hb | hb
    · exact .inl (h.v_sub j b hb.2)
    · exact .inr (.inr ⟨j, hb.2⟩)
  · rcases hi with hi | hi <;> rcases hj with hj | hj
    · exact h.v_dis i j b hi.2 hj.2
    · exact absurd (h.v_sub i b hi.2) (hG j b hj.2).2.1
    · exact absurd (h.v_sub j b hj.2) (hG i b hi.2).2.1
    · exact hGd i j b hi.2 hj.2
  · have hbl : b < w.heap.size ∧ v.ownBlock ≠ some b := by
      rcases hj with hj | hj
      · exact hFE j b hj.2
      · exact hGE j b hj.2
    rcases hmv with e | ⟨q', e, hq'⟩
    · exact hbl.2 (by rw [← e]; exact hb)
    · rw [hb] at e
      cases e
      omega
  · refine ⟨css0 ++ css, by rw [List.length_append, List.length_zipIdx, List.length_append]; omega, fun j c y hcj hyj => ?_, by rw [List.length_zipIdx, List.length_append, List.flatten_append, ← hm]; exact ho⟩
    obtain ⟨e1, e2⟩ := zipIdx_at hyj
    obtain ⟨y1, y2⟩ := y
    dsimp only at e1 e2
    subst e2
    by_cases hja : y2 < a.length
    · rw [List.getElem?_append_left (by omega)] at hcj
      rw [List.getElem?_append_left hja] at e1
      obtain ⟨p1, p2, A9, n9, d9, p3, p4⟩ := h2 y2 c (y1, y2) hcj (by rw [List.getElem?_zipIdx, e1]; simp)
      refine ⟨p1, p2, A9, n9, d9, p3, ?_⟩
      exact mkR_keep2 (fun g x hx => mt_iff (fun b => ⟨fun hb => .inl ⟨hja, hb⟩, fun hb => by
        rcases hb with hb | hb
        · exact hb.2
        · exact absurd hb.1 (by show ¬ a.length ≤ y2; omega)⟩) (keepT (F y2) (hFE y2) g x hx)) p4
    · rw [List.getElem?_append_right (by omega), h1] at hcj
      rw [List.getElem?_append_right (by omega)] at e1
      obtain ⟨p1, p2, A9, n9, d9, p3, p4⟩ := hc (y2 - a.length) c y1 hcj e1
      rw [show a.length + (y2 - a.length) = y2 by omega] at p4
      refine ⟨p1, p2, A9, n9, d9, p3, ?_⟩
      exact mkR_keep2 (fun g x hx => mt_iff (fun b => ⟨fun hb => .inr ⟨by show a.length ≤ y2; omega, hb⟩, fun hb => by
        rcases hb with hb | hb
        · exact absurd hb.1 hja
        · exact hb.2⟩) (keepT (G y2) (hGE y2) g x hx)) p4
/-- A tree whose slots were made anew, one of them with more blocks. -/
def E2 (E : Int → Nat → Prop) (num : Int) (N : Nat → Prop) (n : Int) (b : Nat) : Prop := E n b ∨ (n = num ∧ N b)
def D2 (D : Nat → Prop) (N : Nat → Prop) (vs vr : Value) (b : Nat) : Prop := D b ∨ N b ∨ vs.ownBlock = some b ∨ vr.ownBlock = some b
theorem opT_re {D : Nat → Prop} {g : Nat} {vs vr vs' vr' : Value} {E : Int → Nat → Prop} {x : Tr} (h : OpT (MT K k) K D w g vs vr E x) {sl' : List Slt} {rest' : List Rw} {num : Int} {N : Nat → Prop}
    (hh : HdT (slC (MT K k) (E2 E num N) K w') K w' g vs' vr' sl') (hr : OwnL K 98 4 rwC w' vr' rest') (hm : Moved w vs vs') (hmr : Moved w vr vr') (hN : ∀ b, N b → w.heap.size ≤ b ∧ b < w'.heap.size ∧ vs'.ownBlock ≠ some b ∧ vr'.ownBlock ≠ some b) (hs : w.heap.size ≤ w'.heap.size) :
    OpT (MT K k) K (D2 D N vs' vr') w' g vs' vr' (E2 E num N) (.mk sl' rest') := by
  have hgl := (h.o_lt g h.o_g).1
  have hgb := lt_of_block h.o_hd.h_blk
  have hK := h.o_hd.h_base
  refine ⟨hh, hr, .inl h.o_g, fun b hb => ⟨.inr (.inr (.inl hb)), fun n hn => ?_⟩, fun b hb => ⟨.inr (.inr (.inr hb)), fun n hn => ?_⟩, fun n b hn => ?_, fun n m b hn hm => ?_, fun b hb => ?_⟩
  · rcases hn with hn | ⟨_, hn⟩
    · rcases hm with e | ⟨q, e, hq⟩
      · exact (h.o_s b (by rw [← e]; exact hb)).2 n hn
      · rw [hb] at e
        cases e
        have := (h.o_lt b (h.o_E n b hn).1).1
        omega
    · exact (hN b hn).2.2.1 hb
  · rcases hn with hn | ⟨_, hn⟩
    · rcases hmr with e | ⟨q, e, hq⟩
      · exact (h.o_r b (by rw [← e]; exact hb)).2 n hn
      · rw [hb] at e
        cases e
        have := (h.o_lt b (h.o_E n b hn).1).1
        omega
    · exact (hN b hn).2.2.2 hb
  · rcases hn with hn | ⟨_, hn⟩
    · exact ⟨.inl (h.o_E n b hn).1, (h.o_E n b hn).2⟩
    · exact ⟨.inr (.inl hn), fun e => by have := (hN b hn).1; omega⟩
  · rcases hn with hn | ⟨e1, hn⟩ <;> rcases hm with hm | ⟨e2, hm⟩
    · exact h.o_dis n m b hn hm
    · have := (h.o_lt b (h.o_E n b hn).1).1
      have := (hN b hm).1
      omega
    · have := (h.o_lt b (h.o_E m b hm).1).1
      have := (hN b hn).1
      omega
    · rw [e1, e2]
  · rcases hb with hb | hb | hb | hb
    · have := h.o_lt b hb
      exact ⟨by omega, this.2⟩
    · have := hN b hb
      exact ⟨this.2.1, .inr (by omega)⟩
    · have := ownL_blk hh.h_row b hb
      exact ⟨this.2, .inr this.1⟩
    · have := ownL_blk hr b hb
      exact ⟨this.2, .inr this.1⟩
/-- What lies in the slots' blocks is kept by what touches others alone. -/
theorem ms_stay {D : Nat → Prop} {g : Nat} {vs vr : Value} {E : Int → Nat → Prop} {x : Tr} (h : OpT (MT K k) K D w g vs vr E x) {num : Int} {N : Nat → Prop} {n : Int} (hb : ∀ b, E n b → w'.heap[b]? = w.heap[b]?) (hs : w.heap.size ≤ w'.heap.size) : ∀ c y, y.snum = n → slC (MT K k) E K w c y → slC (MT K k) (E2 E num N) K w' c y :=
  fun c y hy ⟨A, n9, d, e, F, hF⟩ => by
    subst hy
    have h2 := mvr_keep (T' := MT K k) (w' := w') (fun j g x hx => mt_keep k (fun b hbF => hb b (hF.v_sub j b hbF)) hs hx) (fun b hk => hb b (hF.v_blk b hk).1) hF
    exact ⟨A, n9, d, e, F, fun j b hj => .inl (h2.v_sub j b hj), h2.v_dis, fun b hk => ⟨.inl (h2.v_blk b hk).1, (h2.v_blk b hk).2⟩, h2.v_row⟩
end
end Go.Proofs.YtpfdnggacpehdaaGreatDoor

/- What is read into a tree, and the cursor beside it (no program's function here). Conditions: those that each theorem names. -/
namespace Go.Proofs.YtpfdnggacpehdaaGreatDoor
open Go.RowKit
set_option linter.unusedVariables false
set_option maxRecDepth 100000

/-! ### A cursor beside blocks that turn -/
def cutX (w : World) (n : Nat) : World := { w with heap := w.heap.extract 0 n }
theorem cutX_size {w : World} {n : Nat} (h : n ≤ w.heap.size) : (cutX w n).heap.size = n := by simp [cutX]; omega
theorem cutX_get {w : World} {n k : Nat} (hk : k < n) : (cutX w n).heap[k]? = w.heap[k]? := by
  show (w.heap.extract 0 n)[k]? = _
  rw [Array.getElem?_extract]
  by_cases h : k < w.heap.size
  · rw [if_pos (by omega), Nat.zero_add]
  · rw [Array.getElem?_eq_none (by omega)]; split <;> simp_all
theorem cutX_below {w : World} {n : Nat} (h : n ≤ w.heap.size) : Below (cutX w n).heap.size (cutX w n) w :=
  ⟨rfl, rfl, rfl, by rw [cutX_size h]; exact h, fun k hk => by rw [cutX_size h] at hk; exact (cutX_get hk).symm⟩
/-- A cursor; which world its bytes lay in is left open. -/
def CuB (We : World) (K : Nat) (w : World) (p g : Nat) (bs : List UInt8) (s : St) : Prop := ∃ W, W.heap.size = K ∧ Below We.heap.size We W ∧ Cur W w p g bs s
theorem cub_bel {We w w' : World} {K p g : Nat} {bs : List UInt8} {s : St} (h : CuB We K w p g bs s) (hb : Below w.heap.size w w') : CuB We K w' p g bs s := by
  obtain ⟨W, h1, h2, h3⟩ := h
  exact ⟨W, h1, h2, h3.bel hb⟩
theorem cub_env {We w : World} {K p g : Nat} {bs : List UInt8} {s : St} (h : CuB We K w p g bs s) : Below We.heap.size We w := by
  obtain ⟨W, h1, h2, h3⟩ := h
  exact h2.trans ((cur_bel h3).mono h2.size)
theorem cub_lt {We w : World} {K p g : Nat} {bs : List UInt8} {s : St} (h : CuB We K w p g bs s) : K ≤ p ∧ p < w.heap.size ∧ K ≤ g ∧ g < w.heap.size ∧ p ≠ g ∧ We.heap.size ≤ K := by
  obtain ⟨W, h1, h2, h3⟩ := h
  have a := h3.1
  have b := h2.size
  exact ⟨by rw [← h1]; exact a.1, a.2.2.2.1, by rw [← h1]; exact a.2.1, a.2.2.2.2.1, a.2.2.1, by omega⟩
theorem cub_touch {We w w' : World} {K p g : Nat} {bs : List UInt8} {s : St} {D : Nat → Prop} (h : CuB We K w p g bs s) (ht : Touch D w w') (hp : ¬ D p) (hg : ¬ D g)
    (hD : ∀ b, D b → We.heap.size ≤ b ∧ (K ≤ b ∨ ∀ (j : Nat) (c : Int), w.cell? ⟨b, j, none⟩ ≠ some (.int .u8 c))) : CuB We K w' p g bs s := by
  obtain ⟨W, rfl, h2, ⟨a1, a2, a3, a4, a5, a6, a7⟩, a8⟩ := h
  have hsz : W.heap.size ≤ w'.heap.size := Nat.le_trans a6.size ht.size
  have ep := ht.block p a4 hp
  have eg := ht.block g a5 hg
  refine ⟨cutX w' W.heap.size, cutX_size hsz, ⟨?_, ?_, ?_, by rw [cutX_size hsz]; exact h2.size, fun k hk => ?_⟩, ⟨by rw [cutX_size hsz]; exact a1, by rw [cutX_size hsz]; exact a2, a3, Nat.lt_of_lt_of_le a4 ht.size, Nat.lt_of_lt_of_le a5 ht.size, cutX_below hsz, a7⟩, ?_⟩
  · exact ht.os.trans (a6.os.trans h2.os)
  · exact ht.tape.trans (a6.tape.trans h2.tape)
  · exact ht.output.trans (a6.output.trans h2.output)
  · have hk2 : k < W.heap.size := Nat.lt_of_lt_of_le hk h2.size
    rw [cutX_get hk2, ht.block k (Nat.lt_of_lt_of_le hk2 a6.size) (fun hd => by have := (hD k hd).1; omega), a6.block k hk2, h2.block k hk]
  · rcases a8 with ⟨x, y⟩ | ⟨l, r, A, cap, c, x, y, z, t⟩
    · exact .inl ⟨x, ep.trans y⟩
    · refine .inr ⟨l, r, A, cap, c, x, ⟨y.le, y.max, y.nil, fun j d hj => ?_⟩, ep.trans z, t.keep eg⟩
      obtain ⟨b, off, e, hc⟩ := y.at_ j d hj
      have hb := World.block_lt_of_cell? W _ hc
      have hcw := (a6.cell (p := ⟨b, off + j, none⟩) hb).trans hc
      have hno : ¬ D b := fun hd => by
        rcases (hD b hd).2 with h9 | h9
        · have hb' : b < W.heap.size := hb
          omega
        · exact h9 _ _ hcw
      refine ⟨b, off, e, ?_⟩
      rw [World.cell?_of_block (a := ⟨b, off + j, none⟩) (cutX_get hb), World.cell?_of_block (a := ⟨b, off + j, none⟩) (ht.block b (Nat.lt_of_lt_of_le hb a6.size) hno)]
      exact hcw

/-! ### Both -/
structure RdS (We : World) (K j : Nat) (D0 : Nat → Prop) (w0 wr : World) (p gc0 gc : Nat) (bs : List UInt8) (s : St) (g : Nat) (x : Tr) (D : Nat → Prop) (vs vr : Value) (E : Int → Nat → Prop) : Prop where
  r_cur : CuB We K wr p gc bs s
  r_mt : OpT (MT K j) K D wr g vs vr E x
  r_p : ¬ D p
  r_g : ¬ D gc
  r_sub : ∀ b, D b → D0 b ∨ w0.heap.size ≤ b
  r_t : Touch (fun b => D0 b ∨ b = p ∨ b = gc0) w0 wr
  r_gc : gc = gc0 ∨ w0.heap.size ≤ gc
  r_we : We.heap.size ≤ g
section
variable {We w0 wr w2 : World} {K j p gc0 gc g : Nat} {D0 D D' : Nat → Prop} {bs : List UInt8} {s s2 : St} {x x' : Tr} {vs vr vs' vr' : Value} {E E' : Int → Nat → Prop}
theorem rds_bel (h : RdS We K j D0 w0 wr p gc0 gc bs s g x D vs vr E) (hb : Below wr.heap.size wr w2) : RdS We K j D0 w0 w2 p gc0 gc bs s g x D vs vr E :=
  ⟨cub_bel h.r_cur hb, opT_bel hb h.r_mt, h.r_p, h.r_g, h.r_sub, h.r_t.then_below hb, h.r_gc, h.r_we⟩
/-- The cursor went on. -/
theorem rds_cur (h : RdS We K j D0 w0 wr p gc0 gc bs s g x D vs vr E) {W : World} (hW : W.heap.size = K) (hWe : Below We.heap.size We W) {gc' : Nat} (hg : gc' = gc ∨ wr.heap.size ≤ gc') (hc : Cur W w2 p gc' bs s2) (ho : Only p gc wr w2) : RdS We K j D0 w0 w2 p gc0 gc' bs s2 g x D vs vr E := by
  have hlt := fun b hb => (h.r_mt.o_lt b hb).1
  refine ⟨⟨W, hW, hWe, hc⟩, opT_keep (fun b hb => ho.block b (hlt b hb) (fun e => h.r_p (e ▸ hb)) (fun e => h.r_g (e ▸ hb))) ho.size h.r_mt, h.r_p, fun hd => ?_, h.r_sub, ?_, ?_, h.r_we⟩
  · rcases hg with rfl | hg
    · exact h.r_g hd
    · have := hlt gc' hd
      omega
  · refine h.r_t.trans (S' := fun b => b = p ∨ b = gc) ⟨ho.os, ho.tape, ho.output, ho.size, fun k hk hn => ho.block k hk (fun e => hn (.inl e)) (fun e => hn (.inr e))⟩ (fun i hi => ?_)
    rcases hi with rfl | rfl
    · exact .inl (.inr (.inl rfl))
    · rcases h.r_gc with e | e
      · exact .inl (.inr (.inr e))
      · exact .inr e
  · rcases hg with rfl | hg
    · exact h.r_gc
    · exact .inr (Nat.le_trans h.r_t.size hg)
/-- Another tree, the cursor where it was. -/
theorem rds_tree2 {N : Nat → Prop} (h : RdS We K j D0 w0 wr p gc0 gc bs s g x D vs vr E) (ho : OpT (MT K j) K D' w2 g vs' vr' E' x') (ht : Touch D wr w2) (hs : ∀ b, D' b → D b ∨ N b ∨ wr.heap.size ≤ b) (hNp : ¬ N p) (hNg : ¬ N gc) (hN0 : ∀ b, N b → w0.heap.size ≤ b) : RdS We K j D0 w0 w2 p gc0 gc bs s g x' D' vs' vr' E' := by
  obtain ⟨q1, q2, q3, q4, q5, q6⟩ := cub_lt h.r_cur
  refine ⟨cub_touch h.r_cur ht h.r_p h.r_g (fun b hb => ?_), ho, fun hd => ?_, fun hd => ?_, fun b hb => ?_, h.r_t.trans ht (fun i hi => ?_), h.r_gc, h.r_we⟩
  · rcases (h.r_mt.o_lt b hb).2 with rfl | e
    · refine ⟨h.r_we, .inr (fun j c hc => ?_)⟩
      rw [obj_cell h.r_mt.o_hd.h_blk] at hc
      obtain ⟨A1, n1, c1, e1⟩ := ownL_slc h.r_mt.o_hd.h_row
      obtain ⟨A2, n2, c2, e2⟩ := ownL_slc h.r_mt.o_rest
      subst e1 e2
      match j, hc with
      | 0, hc => simp at hc
      | 1, hc => simp at hc
      | j + 2, hc => simp at hc
    · exact ⟨by omega, .inl e⟩
  · rcases hs p hd with h1 | h1 | h1
    · exact h.r_p h1
    · exact hNp h1
    · omega
  · rcases hs gc hd with h1 | h1 | h1
    · exact h.r_g h1
    · exact hNg h1
    · omega
  · rcases hs b hb with h1 | h1 | h1
    · exact h.r_sub b h1
    · exact .inr (hN0 b h1)
    · exact .inr (Nat.le_trans h.r_t.size h1)
  · rcases h.r_sub i hi with h1 | h1
    · exact .inl (.inl h1)
    · exact .inr h1
theorem rds_tree (h : RdS We K j D0 w0 wr p gc0 gc bs s g x D vs vr E) (ho : OpT (MT K j) K D' w2 g vs' vr' E' x') (ht : Touch D wr w2) (hs : ∀ b, D' b → D b ∨ wr.heap.size ≤ b) : RdS We K j D0 w0 w2 p gc0 gc bs s g x' D' vs' vr' E' :=
  rds_tree2 (N := fun _ => False) h ho ht (fun b hb => by
    rcases hs b hb with h1 | h1
    · exact .inl h1
    · exact .inr (.inr h1)) (fun h => h) (fun h => h) (fun _ h => h.elim)
end

/-! ### A slot made anew -/
section
variable {K j : Nat} {w w2 w3 : World} {D N : Nat → Prop} {g : Nat} {vs vr : Value} {E : Int → Nat → Prop} {x : Tr} {num : Int} {vals : List Va} {B : Option Addr} {n c : Nat}
def Rx (T : (Nat → Prop) → World → Nat → Tr → Prop) (E : Int → Nat → Prop) (K : Nat) (w : World) (num : Int) (c : List Value) (y : Slt) : Prop := (∃ A n d, c = [.int .i64 y.snum, .slice A n d]) ∧ (y.snum ≠ num → slC T E K w c y)
theorem shape_rx (T : (Nat → Prop) → World → Nat → Tr → Prop) (E : Int → Nat → Prop) (K : Nat) (w : World) (num : Int) : Shape (Rx T E K w num) := fun c y h => h.1
theorem lay_pre (h : OpT (MT K j) K D w g vs vr E x) (hs : w.heap.size ≤ w2.heap.size) (hk : ∀ b, D b → ¬ E num b → w2.heap[b]? = w.heap[b]?) : HdT (Rx (MT K j) (E2 E num N) K w2 num) K w2 g vs vr x.slots := by
  have hg : w2.heap[g]? = w.heap[g]? := hk g h.o_g (fun e => (h.o_E num g e).2 rfl)
  have hv : ∀ b, vs.ownBlock = some b → w2.heap[b]? = w.heap[b]? := fun b hb => hk b (h.o_s b hb).1 ((h.o_s b hb).2 num)
  have h1 := h.o_hd.keep hg hv hs
  refine ⟨h1.h_blk, ownL_keep h1.h_row (fun c y hc => ⟨shape_ms _ _ _ _ c y hc, fun hne => ?_⟩) (fun _ _ => rfl), h1.h_rise, h1.h_len, h1.h_base⟩
  exact ms_stay h (fun b hb => hk b (h.o_E y.snum b hb).1 (fun e => hne (h.o_dis _ _ b hb e))) hs c y rfl hc
theorem mvr_mono {T : (Nat → Prop) → World → Nat → Tr → Prop} {E1 E2 : Nat → Prop} {v : Value} {l : List Va} {F : Nat → Nat → Prop} (hE : ∀ b, E1 b → E2 b) (h : MVr T E1 K w v l F) : MVr T E2 K w v l F :=
  ⟨fun j b hb => hE b (h.v_sub j b hb), h.v_dis, fun b hb => ⟨hE b (h.v_blk b hb).1, (h.v_blk b hb).2⟩, h.v_row⟩
theorem lay_new (hv : MV (MT K j) (fun b => E num b ∨ N b) K w2 (.slice B n c) vals) : slC (MT K j) (E2 E num N) K w2 [.int .i64 num, .slice B n c] ⟨num, vals⟩ := by
  obtain ⟨F, hF⟩ := hv
  exact ⟨B, n, c, rfl, F, mvr_mono (fun b hb => by
    rcases hb with hb | hb
    · exact .inl hb
    · exact .inr ⟨rfl, hb⟩) hF⟩
theorem lay_post (h : OpT (MT K j) K D w g vs vr E x) (hs : w.heap.size ≤ w2.heap.size) (hr : ∀ b, vr.ownBlock = some b → w2.heap[b]? = w.heap[b]?) (hN : ∀ b, N b → w.heap.size ≤ b ∧ b < w2.heap.size) {sl' : List Slt} (h3 : SetTo (slC (MT K j) (E2 E num N) K w2) K w2 g vs vr sl' w3) :
    ∃ vs', OpT (MT K j) K (D2 D N vs' vr) w3 g vs' vr (E2 E num N) (.mk sl' x.rest) ∧ Touch (fun b => b = g ∨ vs.ownBlock = some b) w2 w3 ∧ (∀ b, D2 D N vs' vr b → D b ∨ N b ∨ w2.heap.size ≤ b) ∧ ∀ c y, slC (MT K j) (E2 E num N) K w2 c y → slC (MT K j) (E2 E num N) K w3 c y := by
  obtain ⟨vs', hh, ht, hm⟩ := h3
  have hvl : ∀ b, vs.ownBlock = some b → b < w.heap.size := fun b hb => (ownL_blk h.o_hd.h_row b hb).2
  have hrl : ∀ b, vr.ownBlock = some b → b < w.heap.size := fun b hb => (ownL_blk h.o_rest b hb).2
  have hgl := lt_of_block h.o_hd.h_blk
  have hm2 : Moved w vs vs' := by
    rcases hm with e | ⟨q, e, hq⟩
    · exact .inl e
    · exact .inr ⟨q, e, Nat.le_trans hs hq⟩
  have hkE : ∀ n b, E2 E num N n b → w3.heap[b]? = w2.heap[b]? := fun n b hb => by
    have hb2 : b < w2.heap.size ∧ b ≠ g ∧ vs.ownBlock ≠ some b := by
      rcases hb with hb | ⟨_, hb⟩
      · have h1 := h.o_E n b hb
        have h2 := h.o_lt b h1.1
        exact ⟨by omega, h1.2, fun e => (h.o_s b e).2 n hb⟩
      · have h1 := hN b hb
        exact ⟨h1.2, by omega, fun e => by have := hvl b e; omega⟩
    exact ht.block b hb2.1 (fun e => by
      rcases e with e | e
      · exact hb2.2.1 e
      · exact hb2.2.2 e)
  have hh3 : HdT (slC (MT K j) (E2 E num N) K w3) K w3 g vs' vr sl' := ⟨hh.h_blk, ownL_keep hh.h_row (ms_keep (fun n F hF g x hx => mt_keep j (fun b hb => hkE n b (hF b hb)) ht.size hx) hkE) (fun _ _ => rfl), hh.h_rise, hh.h_len, hh.h_base⟩
  have hvne : ∀ b, vr.ownBlock = some b → vs.ownBlock ≠ some b := fun b hb e => by
    obtain ⟨_, _, _, c3⟩ := h.o_hd.h_row
    obtain ⟨_, _, _, d3⟩ := h.o_rest
    exact own_own c3 d3 (by decide) hb e
  have hrest : OwnL K 98 4 rwC w3 vr x.rest := ownL_keep h.o_rest (fun _ _ h => h) (fun b hb => (ht.block b (Nat.lt_of_lt_of_le (hrl b hb) hs) (fun e => by
    rcases e with rfl | e
    · exact absurd hb (by
        obtain ⟨_, _, _, d3⟩ := h.o_rest
        exact own_other d3 h.o_hd.h_blk (by decide))
    · exact hvne b hb e)).trans (hr b hb))
  refine ⟨vs', opT_re h hh3 hrest hm2 (.inl rfl) (fun b hb => ⟨(hN b hb).1, Nat.lt_of_lt_of_le (hN b hb).2 ht.size, fun e => ?_, fun e => ?_⟩) (Nat.le_trans hs ht.size), ht, fun b hb => ?_, ms_keep (fun n F hF g x hx => mt_keep j (fun b hb => hkE n b (hF b hb)) ht.size hx) hkE⟩
  · rcases hm with e' | ⟨q, e', hq⟩
    · have := hvl b (by rw [← e']; exact e)
      have := (hN b hb).1
      omega
    · rw [e] at e'
      cases e'
      have := (hN b hb).2
      omega
  · have := hrl b e
    have := (hN b hb).1
    omega
  · rcases hb with hb | hb | hb | hb
    · exact .inl hb
    · exact .inr (.inl hb)
    · rcases hm with e | ⟨q, e, hq⟩
      · exact .inl (h.o_s b (by rw [← e]; exact hb)).1
      · rw [hb] at e
        cases e
        exact .inr (.inr hq)
    · exact .inl (h.o_r b hb).1
/-- The values of a slot, as they lie there. -/
theorem got_mv (h : OpT (MT K j) K D w g vs vr E x) {A : Option Addr} (hg : GotAt (slC (MT K j) E K w) num x.slots A n c) : n = (getT x.slots num).length ∧ ∃ F, MVr (MT K j) (E num) K w (.slice A n c) (getT x.slots num) F := by
  rcases hg with ⟨i, y, hy, ey, eg, A9, n9, d9, e9, F, hF⟩ | ⟨e, _, rfl, rfl, rfl⟩
  · injection e9 with _ e9
    injection e9 with e9 _
    cases e9
    rw [eg]
    rw [ey] at hF
    obtain ⟨A8, c8, e8, _⟩ := mvr_len hF
    cases e8
    exact ⟨rfl, F, hF⟩
  · rw [e]
    exact ⟨rfl, _, mv_nil _ _⟩
end
end Go.Proofs.YtpfdnggacpehdaaGreatDoor
