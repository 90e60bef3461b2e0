/- Several texts in one: LstApp. What each proves, and its conditions, stands at its own head. -/
import Derived.Test.YtakdkocobcicdaaPkTS8
import Derived.Test.YtakdkocobcicdaaPkTS4
import Derived.Test.YtakdkocobcicdaaChecked
import Derived.Test.YtakdkocobcicdaaPkTS0
import Derived.WalkKit
import Derived.RowKitTokens
import Derived.OwnWalk
import Derived.Deep.RegionHeld3
/- append of lists of structs onto a row of the call's own, whatever they are; rows by the kind of their block. Conditions: those that each theorem names. -/
namespace Go.Proofs.Ytakdkocobcicdaa
open Go.RowKit
set_option linter.unusedVariables false
set_option maxRecDepth 100000

theorem flat_inv {α β : Type} (f : α → List β) (k : Nat) (hk : 0 < k) (hf : ∀ a, (f a).length = k) (l : List α) (j : Nat) (u : β) (h : (l.flatMap f)[j]? = some u) : ∃ x, l[j / k]? = some x ∧ (f x)[j % k]? = some u := by
  have hj := (List.getElem?_eq_some_iff.mp h).1
  rw [flat_length f k hf] at hj
  have hq : j / k < l.length := Nat.div_lt_of_lt_mul (by rw [Nat.mul_comm]; exact hj)
  refine ⟨l[j / k], List.getElem?_eq_getElem hq, ?_⟩
  have e := flat_get f k hf l (j / k) l[j / k] (j % k) (List.getElem?_eq_getElem hq) (Nat.mod_lt _ hk)
  rw [Nat.div_add_mod] at e
  rw [← e]
  exact h
theorem run_append_lst {α : Type} {P : Program} {w : World} {base n k bytes : Nat} {t e : TypeId} {i : TypeInfo} {z : Value} {v : Value} {xs : List Value} {S : Nat → Prop} {R : World → List Value → α → Prop} {f : α → List Value} {A : Option Addr} {m c : Nat} {l : List α} (ty : TypeId)
    (ht : P.underlying t = some (.slice e)) (hi : P.info? e = some i) (hz : i.zero = some z) (hsize : i.size = k) (hby : i.bytes = bytes) (hzs : z.cells.size = k) (hk : 0 < k)
    (hf : ∀ x, (f x).length = k) (h1 : ∀ x u, u ∈ f x → u.oneCell' = true) (hown : w.ownsRow base e k v n xs) (hb : Lst k S R w A c l) (hR : ∀ cs x, R w cs x → cs = f x) (hm : m = l.length)
    (h63 : n + m ≤ maxLen) (hbytes : (n + m) * bytes ≤ 140737488355328) (hbase : base ≤ w.heap.size) :
    ∃ v' w', (Builtin.append_ #[t, t] ty #[v, .slice A m c]).run P w = .ok v' w' ∧ w'.ownsRow base e k v' (n + m) (xs ++ l.flatMap f) ∧ w.grownBy w' v.ownBlock ∧ Moved w v v' := by
  subst hm
  rcases A with _ | ad
  · have h0 := hb.l_nil rfl
    have hle := hb.l_le
    have hl : l = [] := List.eq_nil_of_length_eq_zero (by omega)
    subst hl h0
    exact ⟨v, w, run_append_owned_none w base t ty e i k ht hi v n xs hown, by simpa using hown, World.grownBy.refl _ _, .inl rfl⟩
  · exact run_append_own2 w base t ty e i z k bytes ht hi hz hsize hby hzs hk v n xs hown ad l.length c (l.flatMap f) (flat_length f k hf l) (fun j u hu => by
      obtain ⟨x, hx, hfx⟩ := flat_inv f k hk hf l j u hu
      obtain ⟨g, off, cs, ea, _, _, hr, hc⟩ := hb.l_at _ x hx
      obtain rfl := hR cs x hr
      cases ea
      have hplain : (⟨g, off, none⟩ : Addr).add j = ⟨g, off + j, none⟩ := by unfold Addr.add; split <;> simp_all
      rw [hplain]
      have := hc _ u hfx
      rwa [show off + j / k * k + j % k = off + j by have := Nat.div_add_mod j k; rw [Nat.mul_comm] at this; omega] at this) (fun u hu => by
      obtain ⟨x, _, hx⟩ := List.mem_flatMap.mp hu
      exact h1 x u hx) h63 hbytes hbase
/-- 'append' as a step of a region, off what it answers. -/
theorem step_append_run {P : Program} {ops : Array Oper} {o : Oper} {a : Act} {w : World} {K : Act → World → Prop} {Q : Exit → Act → World → Prop} {E : Prop} {t : TypeId} {v y : Value} (hw : Region.wanted o (yielded ops a.tmps) = true) (s x : Operand)
    (ho : o.op = .call { callee := .builtin .append, args := #[s, x], argTypes := #[t, t] }) (hs : a.eval s = v) (hx : a.eval x = y) {X : Value → World → Prop}
    (hr : ∃ v' w', (Builtin.append_ #[t, t] o.type #[v, y]).run P w = .ok v' w' ∧ X v' w') (hK : ∀ v' w', X v' w' → K (a.put o.dst v') w') : if Region.wanted o (yielded ops a.tmps) = true then Oper.wp P o a w K Q else E := by
  rw [if_pos hw]
  obtain ⟨v', w', hr, hX⟩ := hr
  unfold Oper.wp execOp
  simp only [ho, resolve, invoke, builtin, Sem.run_bind, Sem.run_pure, Result.andThen_ok, List.map_toArray, List.map_cons, List.map_nil, hs, hx, hr]
  exact hK v' w' hX

theorem own_typed {w : World} {base k n : Nat} {t : TypeId} {v : Value} {xs : List Value} (h : w.ownsRow base t k v n xs) {g : Nat} (hg : v.ownBlock = some g) : base ≤ g ∧ ∃ cs, w.heap[g]? = some (.cells cs t (0, 0)) := by
  rcases h.2 with ⟨rfl, _⟩ | ⟨g', cap, cur, rfl, hb, hh, _⟩
  · simp [Value.ownBlock] at hg
  · simp [Value.ownBlock] at hg
    subst hg
    exact ⟨hb, _, hh⟩
theorem lst_own_typed {α : Type} {w : World} {base k n : Nat} {t : TypeId} {v : Value} {l : List α} {f : α → List Value} {R : World → List Value → α → Prop} (hk : 0 < k) (hf : ∀ x, (f x).length = k) (hR : ∀ x ∈ l, R w (f x) x) (h : w.ownsRow base t k v n (l.flatMap f)) :
    n = l.length ∧ ∃ A cap, v = .slice A l.length cap ∧ Lst k (fun g => base ≤ g ∧ ∃ cs, w.heap[g]? = some (.cells cs t (0, 0))) R w A cap l := by
  obtain ⟨hn, A, cap, rfl, hl⟩ := lst_own hk hf hR h
  refine ⟨hn, A, cap, rfl, ⟨hl.l_le, hl.l_max, hl.l_nil, fun j x hj => ?_⟩⟩
  obtain ⟨g, off, cs, rfl, hg, h2, h3, h4⟩ := hl.l_at j x hj
  refine ⟨g, off, cs, rfl, ?_, h2, h3, h4⟩
  rcases h.2 with ⟨e, _⟩ | ⟨g2, cap2, cur, e, hb, hh, _⟩
  · cases e
  · injection e with e1 e2 e3
    injection e1 with e1
    injection e1 with e4 e5 e6
    subst e4
    exact ⟨hb, _, hh⟩
end Go.Proofs.Ytakdkocobcicdaa
