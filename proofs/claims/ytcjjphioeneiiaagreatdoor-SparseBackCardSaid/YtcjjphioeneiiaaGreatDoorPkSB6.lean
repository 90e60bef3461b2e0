/- Several texts in one: HeldB. What each proves, and its conditions, stands at its own head. -/
import Derived.OrdersHeld
import Derived.RegionTactic
/- A region that draws its order, whose last operation alone turns what the others read: what is read may be taken first (no program here). Conditions: those that each theorem names. -/
namespace Go.Proofs.YtcjjphioeneiiaaGreatDoor
set_option linter.unusedVariables false
variable {P : Program} {ops : Array Oper} {Q : Exit → Act → World → Prop} {md : Region.Mode} {S : World → Prop} {last : Nat}

/-- Whatever comes up, and S holds behind each that is not the last. -/
def wpAnyG (P : Program) (md : Region.Mode) (ops : Array Oper) (Q : Exit → Act → World → Prop) (S : World → Prop) (last : Nat) : Nat → Array Bool → Act → World → Prop
 | 0, listed, a, w => Region.ready md ops listed = [] ∧ Q .normal a w
 | f + 1, listed, a, w => (Region.ready md ops listed = [] → Q .normal a w) ∧ ∀ i ∈ Region.ready md ops listed, wpOp P ops Q i (fun a' w' => (i ≠ last → S w') ∧ wpAnyG P md ops Q S last f (listed.setIfInBounds i true) a' w') a w
theorem wpAny_of_G : ∀ (f : Nat) (listed : Array Bool) (a : Act) (w : World), wpAnyG P md ops Q S last f listed a w → wpAny P md ops Q f listed a w
 | 0, _, _, _, h => h
 | f + 1, _, _, _, h => ⟨h.1, fun i hi => wpOp_mono (fun a' w' h' => wpAny_of_G f _ a' w' h'.2) (h.2 i hi)⟩

theorem wpAnyG_first {i : Nat} {oi ol : Oper} {v : Value} (hi : ops[i]? = some oi) (hl : ops[last]? = some ol) (hdep : ∃ e ∈ ol.after, Region.binds md e = true ∧ e.on = i)
 (hsel : ∀ (j : Nat) (o : Oper) cs b, ops[j]? = some o → o.op ≠ .select cs b) (hQ : ∀ c a w, Q (.panic c) (a.put oi.dst v) w → Q (.panic c) a w) :
 ∀ (f : Nat) (listed : Array Bool) (a : Act) (w : World), (∀ j oj, ops[j]? = some oj → j ≠ i → listed.getD j true = false → (∀ e ∈ oj.after, Region.binds md e = true → e.on ≠ i) → oi.apart ops oj = true) →
   i ∈ Region.ready md ops listed → YieldsIf P ops S oi v a → S w → wpAnyG P md ops Q S last f (listed.setIfInBounds i true) (a.put oi.dst v) w → wpAnyG P md ops Q S last (f + 1) listed a w := by
 intro f
 induction f with
 | zero =>
   intro listed a w _ hr hy hS H
   refine ⟨fun h => (by rw [h] at hr; cases hr), fun j hj => ?_⟩
   by_cases hji : j = i
   ·subst hji
    exact hy.wpOp hi hS ⟨fun _ => hS, H⟩
   ·have := ready_mono hj hji
    rw [H.1] at this
    cases this
 | succ f ih =>
   intro listed a w hfree hr hy hS H
   refine ⟨fun h => (by rw [h] at hr; cases hr), fun j hj => ?_⟩
   by_cases hji : j = i
   ·subst hji
    exact hy.wpOp hi hS ⟨fun _ => hS, H⟩
   have waits : ∀ {k : Nat} {ok : Oper}, ops[k]? = some ok → (k ∈ Region.ready md ops listed) → ∀ e ∈ ok.after, Region.binds md e = true → e.on ≠ i := fun {k ok} hk hkr e he hb heq => by
    obtain ⟨_, o', ho', hall⟩ := mem_ready.1 hkr
    rw [hk] at ho'
    obtain rfl := Option.some.inj ho'
    have h1 := hall e he hb
    have h0 := (mem_ready.1 hr).1
    rw [heq] at h1
    rcases Nat.lt_or_ge i listed.size with h' | h'
    ·simp [h'] at h0 h1
     rw [h0] at h1
     cases h1
    ·simp [Array.getElem?_eq_none h'] at h1
   have hjl : j ≠ last := fun e => by
    subst e
    obtain ⟨e, he, hb, ho⟩ := hdep
    exact waits hl hj e he hb ho
   obtain ⟨hun, oj, hoj, _⟩ := mem_ready.1 hj
   have h2 := wpOp_putIf hoj (hfree j oj hoj hji hun (waits hoj hj)) (fun cs b => hsel i oi cs b hi) (fun cs b => hsel j oj cs b hoj) hQ hy (H.2 j (ready_mono hj hji))
   refine wpOp_mono (fun a' w' h3 => ⟨h3.2.1, ih (listed.setIfInBounds j true) a' w' (fun k ok hk hki hkn hno => hfree k ok hk hki ?_ hno) (ready_mono hr (Ne.symm hji)) h3.1 (h3.2.1 hjl) ?_⟩) h2
   ·by_cases hjk : j = k
    ·subst hjk; exact hun
    ·rwa [getD_set_ne true hjk] at hkn
   ·rw [Array.setIfInBounds_comm _ _ hji]
    exact h3.2.2
/-- Does the operation at place l wait for the one at place i? -/
def waitsB (md : Region.Mode) (ops : Array Oper) (l i : Nat) : Bool := match ops[l]? with
 | some o => o.after.any fun e => Region.binds md e && decide (e.on = i)
 | none => false
theorem wpAnyG_take (i : Nat) (v : Value) {oi : Oper} {f : Nat} {listed : Array Bool} {a : Act} {w : World} (hi : ops[i]? = some oi) (hs : Region.noSelect ops = true) (hf : Region.free md ops listed i = true) (hr : (Region.ready md ops listed).contains i = true) (hw : waitsB md ops last i = true)
 (hQ : ∀ c a w, Q (.panic c) (a.put oi.dst v) w → Q (.panic c) a w) (hy : YieldsIf P ops S oi v a) (hS : S w) (h : wpAnyG P md ops Q S last f (listed.setIfInBounds i true) (a.put oi.dst v) w) : wpAnyG P md ops Q S last (f + 1) listed a w := by
 unfold waitsB at hw
 split at hw
 ·rename_i ol hl
  obtain ⟨e, he, hb⟩ := Array.any_eq_true'.mp hw
  rw [Bool.and_eq_true, decide_eq_true_eq] at hb
  exact wpAnyG_first hi hl ⟨e, he, hb⟩ (Region.noSelect_spec hs) hQ f listed a w (Region.free_spec hi hf) (by simpa using hr) hy hS h
 ·cases hw
theorem wpAnyG_all {rs : List Nat} {f : Nat} {listed : Array Bool} {a : Act} {w : World} (hr : Region.ready md ops listed = rs) (hne : rs ≠ [])
 (h : ∀ i ∈ rs, wpOp P ops Q i (fun a' w' => (i ≠ last → S w') ∧ wpAnyG P md ops Q S last f (listed.setIfInBounds i true) a' w') a w) : wpAnyG P md ops Q S last (f + 1) listed a w :=
 ⟨fun h0 => absurd (hr ▸ h0) hne, hr ▸ h⟩
theorem wpAnyG_done {listed : Array Bool} {a : Act} {w : World} (hr : Region.ready md ops listed = []) (h : Q .normal a w) : ∀ f, wpAnyG P md ops Q S last f listed a w
 | 0 => ⟨hr, h⟩
 | _ + 1 => ⟨fun _ => h, by rw [hr]; simp⟩
theorem wp_region_G (S : World → Prop) (last : Nat) {id : Nat} {a : Act} {w : World} {l : List Oper} (hm : P.follows .mixedOrders = true)
 (h : wpAnyG P .any l.toArray Q S last l.toArray.size (Array.replicate l.toArray.size false) a w.drew) : (Code.region id l.toArray true).wp P Q a w :=
 wp_region_any hm (wpAny_of_G _ _ _ _ h)
/-! ### The same, in short -/
theorem wgt (i : Nat) (v : Value) {oi : Oper} {f : Nat} {listed : Array Bool} {a : Act} {w : World} (hy : ∀ U, S U → (execOp a.eval oi).run P U = .ok (.value v) U) (hS : S w) (h : wpAnyG P md ops Q S last f (listed.setIfInBounds i true) (a.put oi.dst v) w)
 (hi : ops[i]? = some oi := by exact rfl) (hQ : ∀ c a w, Q (.panic c) (a.put oi.dst v) w → Q (.panic c) a w := by exact (fun _ _ _ h => h)) (hs : Region.noSelect ops = true := by kernel_rfl) (hf : Region.free md ops listed i = true := by kernel_rfl) (hr : (Region.ready md ops listed).contains i = true := by kernel_rfl) (hw : waitsB md ops last i = true := by kernel_rfl) (ha : Region.wanted oi (yielded ops a.tmps) = true := by kernel_rfl) :
 wpAnyG P md ops Q S last (f + 1) listed a w := wpAnyG_take i v hi hs hf hr hw hQ (.inl ⟨ha, hy⟩) hS h
theorem wgo (i : Nat) {oi : Oper} {f : Nat} {listed : Array Bool} {a : Act} {w : World}
 (h : ∀ K' : Act → World → Prop, (∀ a' w', ((i ≠ last → S w') ∧ wpAnyG P md ops Q S last f (listed.setIfInBounds i true) a' w') → K' a' w') → if Region.wanted oi (yielded ops a.tmps) = true then Oper.wp P oi a w K' Q else K' (a.put oi.dst undef) w)
 (hi : ops[i]? = some oi := by exact rfl) (hr : Region.ready md ops listed = [i] := by kernel_rfl) : wpAnyG P md ops Q S last (f + 1) listed a w :=
 wpAnyG_all hr (by simp) (fun j hj => by obtain rfl := List.mem_singleton.mp hj; exact wpOp_step hi h)
theorem wgo2 (i j : Nat) {oi oj : Oper} {f : Nat} {listed : Array Bool} {a : Act} {w : World}
 (h : ∀ K' : Act → World → Prop, (∀ a' w', ((i ≠ last → S w') ∧ wpAnyG P md ops Q S last f (listed.setIfInBounds i true) a' w') → K' a' w') → if Region.wanted oi (yielded ops a.tmps) = true then Oper.wp P oi a w K' Q else K' (a.put oi.dst undef) w)
 (h2 : ∀ K' : Act → World → Prop, (∀ a' w', ((j ≠ last → S w') ∧ wpAnyG P md ops Q S last f (listed.setIfInBounds j true) a' w') → K' a' w') → if Region.wanted oj (yielded ops a.tmps) = true then Oper.wp P oj a w K' Q else K' (a.put oj.dst undef) w)
 (hi : ops[i]? = some oi := by exact rfl) (hj : ops[j]? = some oj := by exact rfl) (hr : Region.ready md ops listed = [i, j] := by kernel_rfl) : wpAnyG P md ops Q S last (f + 1) listed a w :=
 wpAnyG_all hr (by simp) (fun k hk => by
  rcases List.mem_cons.mp hk with rfl | hk
  ·exact wpOp_step hi h
  ·obtain rfl := List.mem_singleton.mp hk
   exact wpOp_step hj h2)
theorem rht (i : Nat) (v : Value) {oi : Oper} {f : Nat} {listed : Array Bool} {a : Act} {w : World} (hy : ∀ U, S U → (execOp a.eval oi).run P U = .ok (.value v) U) (h : wpAnyH P md ops Q S f (listed.setIfInBounds i true) (a.put oi.dst v) w)
 (hi : ops[i]? = some oi := by exact rfl) (hS : S w := by exact rfl) (hQ : ∀ c a w, Q (.panic c) (a.put oi.dst v) w → Q (.panic c) a w := by exact (fun _ _ _ h => h)) (hs : Region.noSelect ops = true := by kernel_rfl) (hf : Region.free md ops listed i = true := by kernel_rfl) (hr : (Region.ready md ops listed).contains i = true := by kernel_rfl) (ha : Region.wanted oi (yielded ops a.tmps) = true := by kernel_rfl) :
 wpAnyH P md ops Q S (f + 1) listed a w := wpAnyH_take hi hs hf hr hQ (.inl ⟨ha, hy⟩) hS h
theorem rhs (i : Nat) {oi : Oper} {f : Nat} {listed : Array Bool} {a : Act} {w : World} (h : wpAnyH P md ops Q S f (listed.setIfInBounds i true) (a.put oi.dst undef) w)
 (hi : ops[i]? = some oi := by exact rfl) (hS : S w := by exact rfl) (hQ : ∀ c a w, Q (.panic c) (a.put oi.dst undef) w → Q (.panic c) a w := by exact (fun _ _ _ h => h)) (hs : Region.noSelect ops = true := by kernel_rfl) (hf : Region.free md ops listed i = true := by kernel_rfl) (hr : (Region.ready md ops listed).contains i = true := by kernel_rfl) (ha : Region.wanted oi (yielded ops a.tmps) = false := by kernel_rfl) :
 wpAnyH P md ops Q S (f + 1) listed a w := wpAnyH_take hi hs hf hr hQ (.inr ⟨ha, rfl⟩) hS h
end Go.Proofs.YtcjjphioeneiiaaGreatDoor
