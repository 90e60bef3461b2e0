/- Several texts in one: PnI. What each proves, and its conditions, stands at its own head. -/
import Derived.Test.YtcjjphioeneiiaaGreatDoorPkSB37
import Derived.Test.YtcjjphioeneiiaaGreatDoorPkSB42
import Derived.Test.YtcjjphioeneiiaaGreatDoorPkSB45
/- What the tokens of a text are, and what is read of them is not too much (no program here). Conditions: those that each theorem names. -/
namespace Go.Proofs.YtcjjphioeneiiaaGreatDoor
set_option linter.unusedVariables false
set_option linter.unusedSimpArgs false

def TkOk (n : Nat) (x : Tk) : Prop := (x.kind = 1 → wordish x.s = true ∧ x.s.length ≤ n) ∧ (x.kind = 4 → wordish x.s = false)
theorem wrun_all : ∀ r : List UInt8, (r.take (wordRun r)).all nameCh = true
 | [] => rfl
 | c :: r => by
   rw [wordRun]
   split
   ·rename_i h
    rw [List.take_succ_cons, List.all_cons, h, wrun_all r]
    rfl
   ·rfl
theorem one_ok (t : List UInt8) : TkOk t.length (oneT t).1 := by
 unfold oneT
 split
 ·rename_i h
  refine ⟨fun _ => ⟨?_, by show (t.take (wordN t)).length ≤ _; rw [List.length_take]; omega⟩, fun e => (by simp [tk0] at e)⟩
  cases t with
  | nil => simp [wordN] at h
  | cons c r =>
    rw [wordN] at h ⊢
    split at h
    ·rename_i hc
     rw [if_pos hc]
     show wordish ((c :: r).take (wordRun r + 1)) = true
     rw [List.take_succ_cons, wordish, hc, wrun_all]
     rfl
    ·omega
 ·split
  ·exact ⟨fun e => (by simp [tk0] at e), fun e => (by simp [tk0] at e)⟩
  ·split
   ·exact ⟨fun e => (by simp [tk0] at e), fun e => (by simp [tk0] at e)⟩
   ·cases t with
    | nil => exact ⟨fun e => (by simp [tk0] at e), fun e => (by simp [tk0] at e)⟩
    | cons c r =>
      dsimp only
      split
      ·rename_i hm
       refine ⟨fun e => (by simp [tk0] at e), fun _ => ?_⟩
       show (letterB c && true) = false
       unfold markB at hm
       unfold letterB
       simp only [decide_eq_true_iff] at hm
       simp only [Bool.and_true, Bool.or_eq_false_iff, Bool.and_eq_false_iff, decide_eq_false_iff_not]
       omega
      ·exact ⟨fun e => (by simp [tk0] at e), fun e => (by simp [tk0] at e)⟩
theorem from_ok (t : List UInt8) : ∀ (f i : Nat), ∀ x ∈ (lexFrom t f i).1, TkOk t.length x
 | 0, i => fun x hx => absurd hx (by simp [lexFrom])
 | f + 1, i => fun x hx => by
   rw [lexFrom] at hx
   split at hx
   ·split at hx
    ·simp at hx
    ·rcases List.mem_cons.mp hx with rfl | hx
     ·have h := one_ok (t.drop i)
      refine ⟨fun e => ⟨(h.1 e).1, Nat.le_trans (h.1 e).2 (by rw [List.length_drop]; omega)⟩, fun e => h.2 e⟩
     ·exact from_ok t f _ x hx
   ·simp at hx
theorem lexT_ok (t : List UInt8) (most : Int) : ∀ x ∈ (lexT t most).1, TkOk t.length x := by
 intro x hx
 unfold lexT at hx
 split at hx
 ·simp at hx
 ·split at hx
  ·rcases List.mem_append.mp hx with hx | hx
   ·exact from_ok t _ _ x hx
   ·obtain rfl := List.mem_singleton.mp hx
    exact ⟨fun e => (by simp [tk0] at e), fun e => (by simp [tk0] at e)⟩
  ·simp at hx
theorem lexT_good (t : List UInt8) (most : Int) : GoodT (lexT t most).1 := fun i hi => by
 have e : tokOf (lexT t most).1 i = (lexT t most).1[i] := by unfold tokOf; rw [List.getElem?_eq_getElem hi]; rfl
 have h := lexT_ok t most _ (List.getElem_mem hi)
 rw [e]
 exact ⟨fun k => (h.1 k).1, h.2⟩
section
variable {l : List Tk} {K : Nat}
theorem nameP_len (hk : ∀ x ∈ l, TkOk K x) (x : Ps) : (nameP l x).1.length ≤ K := by
 unfold nameP
 split
 ·exact Nat.zero_le _
 ·rename_i h
  unfold noName at h
  simp only [Bool.or_eq_true, decide_eq_true_iff, not_or, Decidable.not_not] at h
  show (tokOf l x.at_i).s.length ≤ K
  have h2 := h.2
  unfold tokOf at h2 ⊢
  cases hg : l[x.at_i]? with
  | none => exact Nat.zero_le _
  | some y =>
    rw [hg] at h2
    exact ((hk y (List.mem_of_getElem? hg)).1 h2).2
theorem valsP_len (hk : ∀ x ∈ l, TkOk K x) : ∀ (f : Nat) (x : Ps), ∀ v ∈ (valsP l f x).1, v.name.length ≤ K
 | 0, x => fun v hv => absurd hv (by simp [valsP])
 | f + 1, x => fun v hv => by
   rw [valsP] at hv
   split at hv
   ·simp at hv
   ·split at hv
    ·simp at hv
    ·rcases List.mem_cons.mp hv with rfl | hv
     ·exact nameP_len hk x
     ·exact valsP_len hk f _ v hv
theorem oneP_len (hk : ∀ x ∈ l, TkOk K x) (x : Ps) : (oneP l x).1.length ≤ K := by
 unfold oneP
 split
 ·exact nameP_len hk _
 ·exact Nat.zero_le _
theorem linesP_len (hk : ∀ x ∈ l, TkOk K x) : ∀ (f : Nat) (x : Ps), ∀ v ∈ (linesP l f x).1.1, v.name.length ≤ K ∧ v.ref.length ≤ K ∧ v.one.length ≤ K
 | 0, x => fun v hv => absurd hv (by simp [linesP])
 | f + 1, x => fun v hv => by
   rw [linesP] at hv
   split at hv
   ·simp at hv
   ·split at hv
    ·simp at hv
    ·split at hv
     ·exact linesP_len hk f _ v hv
     ·rcases List.mem_cons.mp hv with rfl | hv
      ·exact ⟨nameP_len hk _, nameP_len hk _, oneP_len hk _⟩
      ·exact linesP_len hk f _ v hv
/-- What is read fits. -/
structure PFit (K N : Nat) (es : List En) (ms : List Ms) : Prop where
 p_e : ∀ x ∈ es, x.name.length ≤ K ∧ (∀ v ∈ x.values, v.name.length ≤ K) ∧ x.values.length ≤ N
 p_m : ∀ x ∈ ms, x.name.length ≤ K ∧ (∀ f ∈ x.fields, f.name.length ≤ K ∧ f.ref.length ≤ K ∧ f.one.length ≤ K) ∧ x.fields.length ≤ N ∧ x.barred.length ≤ N
theorem parts_fit (hE : EndOk l) (hk : ∀ x ∈ l, TkOk K x) : ∀ (f : Nat) (x : Ps), x.at_i < l.length → PFit K (l.length + 1) (partsP l f x).1.1 (partsP l f x).1.2 ∧ (partsP l f x).1.1.length + (partsP l f x).1.2.length ≤ f
 | 0, x, _ => ⟨⟨fun _ h => absurd h (by simp [partsP]), fun _ h => absurd h (by simp [partsP])⟩, by simp [partsP]⟩
 | f + 1, x, hx => by
   rw [partsP]
   split
   ·exact ⟨⟨fun _ h => absurd h (by simp), fun _ h => absurd h (by simp)⟩, by simp⟩
   ·split
    ·rename_i h1 h2
     have hn : (nextP x).at_i < l.length := isP_next hE hx h2
     obtain ⟨⟨i1, i2⟩, i3⟩ := parts_fit hE hk f _ (enum_in hE hn)
     refine ⟨⟨fun y hy => ?_, i2⟩, by simp only [List.length_cons]; omega⟩
     rcases List.mem_cons.mp hy with rfl | hy
     ·exact ⟨nameP_len hk _, valsP_len hk _ _, enum_cnt l _⟩
     ·exact i1 y hy
    ·split
     ·rename_i h1 h2 h3
      have hn : (nextP x).at_i < l.length := isP_next hE hx h3
      obtain ⟨⟨i1, i2⟩, i3⟩ := parts_fit hE hk f _ (msg_in hE hn)
      refine ⟨⟨i1, fun y hy => ?_⟩, by simp only [List.length_cons]; omega⟩
      rcases List.mem_cons.mp hy with rfl | hy
      ·exact ⟨nameP_len hk _, linesP_len hk _ _, msg_cnt hE hn⟩
      ·exact i2 y hy
     ·exact ⟨⟨fun _ h => absurd h (by simp), fun _ h => absurd h (by simp)⟩, by simp⟩
end
theorem typedF_len {s : Sc} {f : Fd} {K : Nat} (h : f.name.length ≤ K ∧ f.ref.length ≤ K ∧ f.one.length ≤ K) : (typedF s f).name.length ≤ K ∧ (typedF s f).ref.length ≤ K ∧ (typedF s f).one.length ≤ K := by
 unfold typedF
 split
 ·exact ⟨h.1, Nat.zero_le _, h.2.2⟩
 ·exact h
theorem typed_fits {K N : Nat} {es : List En} {ms : List Ms} (h : PFit K N es ms) (hK : K ≤ 1000000) (hN : N ≤ 10000) (he : es.length ≤ 10000) (hm : ms.length ≤ 10000) : Fits (typedS ⟨es, ms⟩) := by
 refine ⟨he, by show (ms.map _).length ≤ _; rw [List.length_map]; exact hm, fun x hx => ?_, fun x hx => ?_⟩
 ·obtain ⟨h1, h2, h3⟩ := h.p_e x hx
  exact ⟨by omega, fun v hv => Nat.le_trans (h2 v hv) hK, by omega⟩
 ·obtain ⟨y, hy, rfl⟩ := List.mem_map.mp hx
  obtain ⟨h1, h2, h3, h4⟩ := h.p_m y hy
  refine ⟨Nat.le_trans h1 hK, fun f hf => ?_, by show (y.fields.map _).length ≤ _; rw [List.length_map]; omega, Nat.le_trans h4 hN⟩
  obtain ⟨g, hg, rfl⟩ := List.mem_map.mp hf
  have := typedF_len (s := ⟨es, ms⟩) (h2 g hg)
  exact ⟨by omega, by omega, by omega⟩
/-- Lists of fewer than 20 things. -/
structure FewS (s : Sc) : Prop where
 w_e : s.enums.length < 20
 w_m : s.msgs.length < 20
 w_v : ∀ e ∈ s.enums, e.values.length < 20
 w_f : ∀ m ∈ s.msgs, m.fields.length < 20
theorem few_typed {s : Sc} (h : FewS s) : FewS (typedS s) := by
 refine ⟨h.w_e, by show (s.msgs.map _).length < _; rw [List.length_map]; exact h.w_m, h.w_v, fun m hm => ?_⟩
 obtain ⟨y, hy, rfl⟩ := List.mem_map.mp hm
 show (y.fields.map _).length < _
 rw [List.length_map]
 exact h.w_f y hy
/-- What is read of this text has fewer than 20 of each. -/
def FewT (t : List UInt8) : Prop := ∀ es ms y, partsP (lexT t 6000).1 ((lexT t 6000).1.length + 1) ⟨0, false⟩ = ((es, ms), y) → y.at_bad = false → FewS ⟨es, ms⟩
end Go.Proofs.YtcjjphioeneiiaaGreatDoor
