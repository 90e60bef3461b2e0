/- Several texts in one: CurMath, RawMath, TrMath. What each proves, and its conditions, stands at its own head. -/
import Derived.Lib.Varint
import Derived.Test.YtakdkocobcicdaaPkTL0
import Derived.Lib.BitFns
import Derived.Laws.BitsLemmas
import Derived.Lib.EndianBits
import Derived.Test.YtakdkocobcicdaaPkTL3
/- Layer 5 in plain words (no program here): a cursor's place and its frames (the innermost one first; none: it failed), and what each call reads. -/
namespace Go.Proofs.Ytakdkocobcicdaa
open Go.RowKit
open Go.Lib (uvarint)

structure St where
  at_ : Nat
  fr : List Nat
def St.none : St := ⟨0, []⟩

/-- How many bytes are read: 0: it fails. -/
def St.on (s : St) (k : Nat) : St := if k = 0 then St.none else ⟨s.at_ + k, s.fr⟩
end Go.Proofs.Ytakdkocobcicdaa

/- Layer 7 in plain words (no program here): a field, whether it is right, its bytes, and what a cursor reads. -/
namespace Go.Proofs.Ytakdkocobcicdaa
open Go.Lib (uvarint)
set_option linter.unusedVariables false

structure Rw where
  num : Int
  wire : Int
  n : Nat
  s : List UInt8
theorem Rw.ext' {a b : Rw} (h1 : a.num = b.num) (h2 : a.wire = b.wire) (h3 : a.n = b.n) (h4 : a.s = b.s) : a = b := by
  cases a; cases b; simp_all
def rwEq (a b : Rw) : Bool := (decide (a.num = b.num) && decide (a.wire = b.wire)) && (decide (a.n = b.n) && decide (a.s = b.s))
theorem rwEq_iff (a b : Rw) : rwEq a b = true ↔ a = b := by
  refine ⟨fun h => ?_, fun h => by subst h; simp [rwEq]⟩
  simp [rwEq] at h
  exact Rw.ext' h.1.1 h.1.2 h.2.1 h.2.2
def sameR : List Rw → List Rw → Bool
  | [], [] => true
  | a :: l, b :: m => rwEq a b && sameR l m
  | _, _ => false
theorem sameR_iff : ∀ l m : List Rw, sameR l m = true ↔ l = m
  | [], [] => by simp [sameR]
  | [], b :: m => by simp [sameR]
  | a :: l, [] => by simp [sameR]
  | a :: l, b :: m => by simp [sameR, rwEq_iff, sameR_iff l m]
theorem sameR_self (l : List Rw) : sameR l l = true := (sameR_iff l l).mpr rfl
theorem sameR_length {l m : List Rw} (h : l.length ≠ m.length) : sameR l m = false := by
  cases hs : sameR l m with
  | false => rfl
  | true => exact absurd (congrArg List.length ((sameR_iff l m).mp hs)) h
theorem sameR_off {l m : List Rw} {k : Nat} {a b : Rw} (ha : l[k]? = some a) (hb : m[k]? = some b) (h : rwEq a b = false) : sameR l m = false := by
  cases hs : sameR l m with
  | false => rfl
  | true =>
    have e := (sameR_iff l m).mp hs
    subst e
    rw [ha] at hb
    cases hb
    rw [(rwEq_iff a a).mpr rfl] at h
    cases h
theorem sameR_all {l m : List Rw} (hl : l.length = m.length) (h : ∀ (k : Nat) a b, l[k]? = some a → m[k]? = some b → rwEq a b = true) : sameR l m = true := by
  rw [sameR_iff]
  apply List.ext_getElem?
  intro k
  by_cases hk : k < l.length
  · have ha := List.getElem?_eq_getElem hk
    have hb := List.getElem?_eq_getElem (l := m) (i := k) (by omega)
    rw [ha, hb, (rwEq_iff _ _).mp (h k _ _ ha hb)]
  · rw [List.getElem?_eq_none (by omega), List.getElem?_eq_none (by omega)]

end Go.Proofs.Ytakdkocobcicdaa

/- Trees, plain (no program here): how deep, how much, what is left of so much; what a walk through all of them makes. Conditions: those that each theorem names. -/
namespace Go.Proofs.Ytakdkocobcicdaa
set_option linter.unusedVariables false

structure VaF (τ : Type) where
  vn : Nat
  vs : List UInt8
  vm : List τ
structure SlF (τ : Type) where
  snum : Int
  svals : List (VaF τ)
inductive Tr where
  | mk (slots : List (SlF Tr)) (rest : List Rw)
abbrev Va := VaF Tr
abbrev Slt := SlF Tr
def Tr.slots : Tr → List Slt
  | .mk a _ => a
def Tr.rest : Tr → List Rw
  | .mk _ b => b
theorem tr_ext {a b : Tr} (h1 : a.slots = b.slots) (h2 : a.rest = b.rest) : a = b := by
  cases a; cases b; cases h1; cases h2; rfl
instance : Inhabited Tr := ⟨.mk [] []⟩
instance : Inhabited Va := ⟨⟨0, [], []⟩⟩
instance : Inhabited Slt := ⟨⟨0, []⟩⟩

/-- The greatest of what f says. -/
def supB {α : Type} (f : α → Nat) : List α → Nat
  | [] => 0
  | x :: l => max (f x) (supB f l)
def sumB {α : Type} (f : α → Nat) : List α → Nat
  | [] => 0
  | x :: l => f x + sumB f l
section
variable {α β : Type} (f : α → Nat)
theorem supB_append : ∀ a b : List α, supB f (a ++ b) = max (supB f a) (supB f b)
  | [], b => by simp [supB]
  | x :: a, b => by rw [List.cons_append, supB, supB, supB_append a b]; omega
theorem sumB_append : ∀ a b : List α, sumB f (a ++ b) = sumB f a + sumB f b
  | [], b => by simp [sumB]
  | x :: a, b => by rw [List.cons_append, sumB, sumB, sumB_append a b]; omega
theorem take_snoc' {l : List α} {i : Nat} {x : α} (h : l[i]? = some x) : l.take (i + 1) = l.take i ++ [x] := by
  rw [List.take_add_one, h]; rfl
theorem sumB_take {l : List α} {i : Nat} {x : α} (h : l[i]? = some x) : sumB f (l.take (i + 1)) = sumB f (l.take i) + f x := by
  rw [take_snoc' h, sumB_append]; simp [sumB]
theorem supB_mem : ∀ {l : List α} {x : α}, x ∈ l → f x ≤ supB f l
  | y :: l, x, h => by
    rw [supB]
    rcases List.mem_cons.mp h with rfl | h
    · omega
    · have := supB_mem h; omega
theorem supB_le {b : Nat} : ∀ {l : List α}, (∀ x ∈ l, f x ≤ b) → supB f l ≤ b
  | [], _ => Nat.zero_le _
  | y :: l, h => by
    rw [supB]
    have := supB_le (l := l) (fun x hx => h x (List.mem_cons_of_mem _ hx))
    have := h y List.mem_cons_self
    omega
theorem sumB_takele {l : List α} (i : Nat) : sumB f (l.take i) ≤ sumB f l := by
  have := sumB_append f (l.take i) (l.drop i)
  rw [List.take_append_drop] at this
  omega
theorem sumB_add (g : α → Nat) : ∀ l : List α, sumB (fun x => f x + g x) l = sumB f l + sumB g l
  | [] => rfl
  | x :: l => by simp only [sumB]; rw [sumB_add g l]; omega
theorem sumB_flat (g : β → List α) : ∀ l : List β, sumB f (l.flatMap g) = sumB (fun x => sumB f (g x)) l
  | [] => rfl
  | x :: l => by rw [List.flatMap_cons, sumB_append, sumB_flat g l]; rfl
theorem supB_flat (g : β → List α) : ∀ l : List β, supB f (l.flatMap g) = supB (fun x => supB f (g x)) l
  | [] => rfl
  | x :: l => by rw [List.flatMap_cons, supB_append, supB_flat g l]; rfl
end

/-- The trees within. -/
def kidsV (l : List Va) : List Tr := l.flatMap (·.vm)
def kidsS (l : List Slt) : List Tr := l.flatMap fun s => kidsV s.svals
/-- How deep, down to a level. -/
def deepN : Nat → Tr → Nat
  | 0, _ => 0
  | k + 1, t => supB (fun s : Slt => supB (fun v : Va => supB (deepN k) v.vm) s.svals) t.slots + 1
def cntN : Nat → Tr → Nat
  | 0, _ => 0
  | k + 1, t => t.rest.length + sumB (fun s : Slt => s.svals.length + sumB (fun v : Va => sumB (cntN k) v.vm) s.svals) t.slots
def ownC (t : Tr) : Nat := t.rest.length + sumB (fun s : Slt => s.svals.length) t.slots
theorem cntN_kids (k : Nat) (t : Tr) : cntN (k + 1) t = ownC t + sumB (cntN k) (kidsS t.slots) := by
  unfold cntN ownC kidsS
  rw [sumB_add, sumB_flat]
  have : (fun x : Slt => sumB (cntN k) (kidsV x.svals)) = fun s : Slt => sumB (fun v : Va => sumB (cntN k) v.vm) s.svals := by
    funext s; unfold kidsV; rw [sumB_flat]
  rw [this]; omega
theorem deepN_kids (k : Nat) (t : Tr) : deepN (k + 1) t = supB (deepN k) (kidsS t.slots) + 1 := by
  unfold kidsS
  rw [supB_flat, deepN]
  have : (fun x : Slt => supB (deepN k) (kidsV x.svals)) = fun s : Slt => supB (fun v : Va => supB (deepN k) v.vm) s.svals := by
    funext s; unfold kidsV; rw [supB_flat]
  rw [this]

/-- A round for each, as long as what there is is not below 0. -/
def foldG {α : Type} (f : Int → α → Int) (n : Int) (l : List α) : Int := l.foldl (fun n x => if 0 ≤ n then f n x else n) n
theorem foldG_neg {α : Type} (f : Int → α → Int) {n : Int} (h : n < 0) : ∀ l : List α, foldG f n l = n
  | [] => rfl
  | x :: l => by
    show foldG f (if 0 ≤ n then f n x else n) l = n
    rw [if_neg (by omega)]
    exact foldG_neg f h l
theorem foldG_take {α : Type} (f : Int → α → Int) (n : Int) {l : List α} {i : Nat} {x : α} (h : l[i]? = some x) (h0 : 0 ≤ foldG f n (l.take i)) : foldG f n (l.take (i + 1)) = f (foldG f n (l.take i)) x := by
  rw [take_snoc' h]
  unfold foldG at h0 ⊢
  rw [List.foldl_append, List.foldl_cons, List.foldl_nil, if_pos h0]
theorem foldG_stop {α : Type} (f : Int → α → Int) (n : Int) {l : List α} {i : Nat} (h0 : foldG f n (l.take i) < 0) : foldG f n l = foldG f n (l.take i) := by
  have e : foldG f n l = foldG f (foldG f n (l.take i)) (l.drop i) := by
    unfold foldG
    rw [← List.foldl_append, List.take_append_drop]
  rw [e, foldG_neg f h0]
theorem foldG_le {α : Type} {f : Int → α → Int} (hf : ∀ n x, f n x ≤ n) : ∀ (l : List α) (n : Int), foldG f n l ≤ n
  | [], n => Int.le_refl _
  | x :: l, n => by
    show foldG f (if 0 ≤ n then f n x else n) l ≤ n
    have h1 := hf n x
    by_cases h0 : 0 ≤ n
    · rw [if_pos h0]
      have := foldG_le hf l (f n x)
      omega
    · rw [if_neg h0]
      exact foldG_le hf l n
/-- Bounds below. -/
theorem foldG_lo {α : Type} {f : Int → α → Int} {b : Int} : ∀ (l : List α) (n : Int), (∀ n x, x ∈ l → 0 ≤ n → b ≤ f n x) → b ≤ n → b ≤ foldG f n l
  | [], n, _, h => h
  | x :: l, n, hf, h => by
    show b ≤ foldG f (if 0 ≤ n then f n x else n) l
    apply foldG_lo l _ (fun n y hy => hf n y (List.mem_cons_of_mem _ hy))
    split
    · exact hf n x List.mem_cons_self ‹_›
    · exact h
theorem foldG_all {α : Type} {f : Int → α → Int} (c : α → Nat) (hf : ∀ n x, 0 ≤ n → 0 ≤ f n x → f n x + (c x : Int) ≤ n) : ∀ (l : List α) (n : Int), 0 ≤ foldG f n l → 0 ≤ n ∧ foldG f n l + (sumB c l : Int) ≤ n ∧ ∀ x ∈ l, ∃ m, 0 ≤ m ∧ m ≤ n ∧ 0 ≤ f m x
  | [], n, h => ⟨h, by show n + 0 ≤ n; omega, fun x hx => by simp at hx⟩
  | x :: l, n, h => by
    have h0 : 0 ≤ n := by
      rcases Int.lt_or_le n 0 with h1 | h1
      · rw [foldG_neg f h1] at h; omega
      · exact h1
    have e : foldG f n (x :: l) = foldG f (f n x) l := by show foldG f (if 0 ≤ n then f n x else n) l = _; rw [if_pos h0]
    rw [e] at h ⊢
    obtain ⟨h1, h2, h3⟩ := foldG_all c hf l (f n x) h
    have h4 := hf n x h0 h1
    refine ⟨h0, by rw [sumB]; push_cast; omega, fun y hy => ?_⟩
    rcases List.mem_cons.mp hy with rfl | hy
    · exact ⟨n, h0, by omega, h1⟩
    · obtain ⟨m, a, b, c'⟩ := h3 y hy
      exact ⟨m, a, by omega, c'⟩

def remR (n : Int) (r : Rw) : Int := n - ((r.s.length / 20 : Nat) : Int)
def leftM (lf : Tr → Int → Int) (n : Int) (l : List Tr) : Int := foldG (fun n t => lf t (n - 1)) n l
def leftV (lf : Tr → Int → Int) (n : Int) (l : List Va) : Int := foldG (fun n v => leftM lf (n - ((v.vs.length / 20 : Nat) : Int)) v.vm) n l
def leftS (lf : Tr → Int → Int) (n : Int) (l : List Slt) : Int := foldG (fun n s => leftV lf (n - (s.svals.length : Int)) s.svals) n l
/-- How much of so much a tree leaves. -/
def leftN : Nat → Tr → Int → Int → Int
  | 0, _, n, _ => n
  | k + 1, t, n, d => if d ≤ 0 then -1 else leftS (fun u m => leftN k u m (d - 1)) (foldG remR (n - (t.rest.length : Int) - (t.slots.length : Int)) t.rest) t.slots
/-- No list and no text is too long, down to a level. -/
def OkN : Nat → Tr → Prop
  | 0, _ => True
  | k + 1, t => t.slots.length ≤ 140737488351232 ∧ t.rest.length ≤ 140737488351232 ∧ (∀ r ∈ t.rest, r.s.length ≤ 140737488351232) ∧ ∀ s ∈ t.slots, s.svals.length ≤ 140737488351232 ∧ ∀ v ∈ s.svals, v.vs.length ≤ 140737488351232 ∧ v.vm.length ≤ 140737488351232 ∧ ∀ u ∈ v.vm, OkN k u
/-- All is short. -/
def FitN : Nat → Tr → Prop
  | 0, _ => True
  | k + 1, t => t.slots.length ≤ 1000 ∧ t.rest.length ≤ 1000 ∧ (∀ r ∈ t.rest, r.s.length ≤ 100000) ∧ ∀ s ∈ t.slots, s.svals.length ≤ 1000 ∧ ∀ v ∈ s.svals, v.vs.length ≤ 100000 ∧ v.vm.length ≤ 1000 ∧ ∀ u ∈ v.vm, FitN k u
theorem leftN_lo : ∀ (k : Nat) (t : Tr) (n d : Int), OkN k t → -1 ≤ n → -281474976710656 ≤ leftN k t n d
  | 0, t, n, d, _, h => by unfold leftN; omega
  | k + 1, t, n, d, ho, h => by
    obtain ⟨o1, o2, o3, o4⟩ := ho
    unfold leftN
    split
    · omega
    · apply foldG_lo
      · intro m s hs hm
        apply foldG_lo
        · intro m v hv hm
          apply foldG_lo
          · intro m u hu hm
            exact leftN_lo k u _ _ ((((o4 s hs).2 v hv).2.2) u hu) (by omega)
          · have := ((o4 s hs).2 v hv).1; omega
        · have := (o4 s hs).1; omega
      · apply foldG_lo
        · intro m r hr hm
          unfold remR
          have := o3 r hr
          omega
        · omega
theorem leftN_le : ∀ (k : Nat) (t : Tr) (n d : Int), -1 ≤ n → leftN k t n d ≤ n
  | 0, t, n, d, _ => by unfold leftN; omega
  | k + 1, t, n, d, hn => by
    unfold leftN
    split
    · exact hn
    · have hM : ∀ (m : Int) (l : List Tr), leftM (fun u m => leftN k u m (d - 1)) m l ≤ m := fun m l => by
        unfold leftM
        induction l generalizing m with
        | nil => exact Int.le_refl _
        | cons x l ih =>
          by_cases h0 : 0 ≤ m
          · have e : foldG (fun n t => (fun u m => leftN k u m (d - 1)) t (n - 1)) m (x :: l) = foldG (fun n t => (fun u m => leftN k u m (d - 1)) t (n - 1)) (leftN k x (m - 1) (d - 1)) l := by
              show foldG _ (if 0 ≤ m then _ else m) l = _
              rw [if_pos h0]
            rw [e]
            have h1 := ih (leftN k x (m - 1) (d - 1))
            have h2 := leftN_le k x (m - 1) (d - 1) (by omega)
            exact Int.le_trans h1 (by omega)
          · rw [foldG_neg _ (by omega)]
            exact Int.le_refl _
      have hV : ∀ (m : Int) (l : List Va), leftV (fun u m => leftN k u m (d - 1)) m l ≤ m := fun m l => foldG_le (fun m v => Int.le_trans (hM _ _) (by omega)) l m
      have hS : ∀ (m : Int) (l : List Slt), leftS (fun u m => leftN k u m (d - 1)) m l ≤ m := fun m l => foldG_le (fun m s => Int.le_trans (hV _ _) (by omega)) l m
      have hR : ∀ (m : Int) (l : List Rw), foldG remR m l ≤ m := fun m l => foldG_le (fun m r => by unfold remR; omega) l m
      have h1 := hS (foldG remR (n - (t.rest.length : Int) - (t.slots.length : Int)) t.rest) t.slots
      have h2 := hR (n - (t.rest.length : Int) - (t.slots.length : Int)) t.rest
      omega
theorem left_fits : ∀ (k : Nat) (t : Tr) (n d : Int), n ≤ 400 → 0 ≤ leftN k t n d → FitN k t ∧ (0 < k → (deepN k t : Int) ≤ d) ∧ leftN k t n d + (cntN k t : Int) ≤ n
  | 0, t, n, d, _, h => ⟨trivial, fun h => absurd h (Nat.lt_irrefl _), by unfold leftN cntN; omega⟩
  | k + 1, t, n, d, hn, h => by
    unfold leftN at h ⊢
    split at h
    · omega
    rename_i hd
    rw [if_neg hd]
    obtain ⟨lf, hlf⟩ : ∃ lf, lf = (fun (u : Tr) (m : Int) => leftN k u m (d - 1)) := ⟨_, rfl⟩
    rw [← hlf] at h ⊢
    have HL : ∀ u m, m ≤ 400 → 0 ≤ lf u m → FitN k u ∧ (0 < k → (deepN k u : Int) ≤ d - 1) ∧ lf u m + (cntN k u : Int) ≤ m := fun u m hm h => by
      rw [hlf] at h ⊢
      exact left_fits k u m (d - 1) hm h
    have HM : ∀ (m : Int) (l : List Tr), m ≤ 400 → 0 ≤ leftM lf m l → leftM lf m l + (sumB (fun u => cntN k u + 1) l : Int) ≤ m ∧ 0 ≤ m ∧ ∀ u ∈ l, FitN k u ∧ (0 < k → (deepN k u : Int) ≤ d - 1) := by
      intro m l
      induction l generalizing m with
      | nil => intro _ h; exact ⟨by show m + 0 ≤ m; omega, h, fun u hu => by simp at hu⟩
      | cons x l ih =>
        intro hm h
        have h0 : 0 ≤ m := by
          rcases Int.lt_or_le m 0 with h1 | h1
          · unfold leftM at h; rw [foldG_neg _ h1] at h; omega
          · exact h1
        have e : leftM lf m (x :: l) = leftM lf (lf x (m - 1)) l := by show foldG _ (if 0 ≤ m then _ else m) l = _; rw [if_pos h0]; rfl
        rw [e] at h ⊢
        have hle : lf x (m - 1) ≤ m - 1 := by rw [hlf]; exact leftN_le k x (m - 1) (d - 1) (by omega)
        obtain ⟨i1, i2, i3⟩ := ih (lf x (m - 1)) (by omega) h
        obtain ⟨j1, j2, j3⟩ := HL x (m - 1) (by omega) i2
        refine ⟨by rw [sumB, Int.natCast_add]; omega, h0, fun u hu => ?_⟩
        rcases List.mem_cons.mp hu with rfl | hu
        · exact ⟨j1, j2⟩
        · exact i3 u hu
    have HV : ∀ (m : Int) (l : List Va), m ≤ 400 → 0 ≤ leftV lf m l → leftV lf m l + (sumB (fun v : Va => sumB (cntN k) v.vm) l : Int) ≤ m ∧ 0 ≤ m ∧ ∀ v ∈ l, v.vs.length ≤ 100000 ∧ v.vm.length ≤ 1000 ∧ ∀ u ∈ v.vm, FitN k u ∧ (0 < k → (deepN k u : Int) ≤ d - 1) := by
      intro m l
      induction l generalizing m with
      | nil => intro _ h; exact ⟨by show m + 0 ≤ m; omega, h, fun u hu => by simp at hu⟩
      | cons x l ih =>
        intro hm h
        have h0 : 0 ≤ m := by
          rcases Int.lt_or_le m 0 with h1 | h1
          · unfold leftV at h; rw [foldG_neg _ h1] at h; omega
          · exact h1
        have e : leftV lf m (x :: l) = leftV lf (leftM lf (m - ((x.vs.length / 20 : Nat) : Int)) x.vm) l := by show foldG _ (if 0 ≤ m then _ else m) l = _; rw [if_pos h0]; rfl
        rw [e] at h ⊢
        have hx0 : 0 ≤ leftM lf (m - ((x.vs.length / 20 : Nat) : Int)) x.vm := by
          rcases Int.lt_or_le (leftM lf (m - ((x.vs.length / 20 : Nat) : Int)) x.vm) 0 with h1 | h1
          · unfold leftV at h; rw [foldG_neg _ h1] at h; omega
          · exact h1
        obtain ⟨j1, j2, j3⟩ := HM (m - ((x.vs.length / 20 : Nat) : Int)) x.vm (by omega) hx0
        have js : (x.vm.length : Int) ≤ (sumB (fun u => cntN k u + 1) x.vm : Nat) := by
          have : ∀ l : List Tr, l.length ≤ sumB (fun u => cntN k u + 1) l := fun l => by
            induction l with
            | nil => exact Nat.le_refl _
            | cons y l ih => simp only [sumB, List.length_cons]; omega
          exact Int.ofNat_le.mpr (this x.vm)
        have jc : (sumB (cntN k) x.vm : Int) ≤ (sumB (fun u => cntN k u + 1) x.vm : Nat) := by
          rw [sumB_add]; omega
        obtain ⟨i1, i2, i3⟩ := ih _ (by omega) h
        refine ⟨by rw [sumB, Int.natCast_add]; omega, h0, fun v hv => ?_⟩
        rcases List.mem_cons.mp hv with rfl | hv
        · exact ⟨by omega, by omega, j3⟩
        · exact i3 v hv
    have HS : ∀ (m : Int) (l : List Slt), m ≤ 400 → 0 ≤ leftS lf m l → leftS lf m l + (sumB (fun s : Slt => s.svals.length + sumB (fun v : Va => sumB (cntN k) v.vm) s.svals) l : Int) ≤ m ∧ 0 ≤ m ∧ ∀ s ∈ l, s.svals.length ≤ 1000 ∧ ∀ v ∈ s.svals, v.vs.length ≤ 100000 ∧ v.vm.length ≤ 1000 ∧ ∀ u ∈ v.vm, FitN k u ∧ (0 < k → (deepN k u : Int) ≤ d - 1) := by
      intro m l
      induction l generalizing m with
      | nil => intro _ h; exact ⟨by show m + 0 ≤ m; omega, h, fun u hu => by simp at hu⟩
      | cons x l ih =>
        intro hm h
        have h0 : 0 ≤ m := by
          rcases Int.lt_or_le m 0 with h1 | h1
          · unfold leftS at h; rw [foldG_neg _ h1] at h; omega
          · exact h1
        have e : leftS lf m (x :: l) = leftS lf (leftV lf (m - (x.svals.length : Int)) x.svals) l := by show foldG _ (if 0 ≤ m then _ else m) l = _; rw [if_pos h0]; rfl
        rw [e] at h ⊢
        have hx0 : 0 ≤ leftV lf (m - (x.svals.length : Int)) x.svals := by
          rcases Int.lt_or_le (leftV lf (m - (x.svals.length : Int)) x.svals) 0 with h1 | h1
          · unfold leftS at h; rw [foldG_neg _ h1] at h; omega
          · exact h1
        obtain ⟨j1, j2, j3⟩ := HV (m - (x.svals.length : Int)) x.svals (by omega) hx0
        obtain ⟨i1, i2, i3⟩ := ih _ (by omega) h
        refine ⟨by rw [sumB, Int.natCast_add]; omega, h0, fun v hv => ?_⟩
        rcases List.mem_cons.mp hv with rfl | hv
        · exact ⟨by omega, j3⟩
        · exact i3 v hv
    have HR : ∀ (l : List Rw) (m : Int), m ≤ 400 → 0 ≤ foldG remR m l → foldG remR m l ≤ m ∧ 0 ≤ m ∧ ∀ r ∈ l, r.s.length ≤ 100000 := by
      intro l m hm h
      obtain ⟨a, b, c⟩ := foldG_all (f := remR) (fun r => r.s.length / 20) (fun n x _ _ => by unfold remR; omega) l m h
      refine ⟨by omega, a, fun r hr => ?_⟩
      obtain ⟨q, q1, q2, q3⟩ := c r hr
      unfold remR at q3
      omega
    have hm0 : (n - (t.rest.length : Int) - (t.slots.length : Int)) ≤ 400 := by omega
    have hr0 : 0 ≤ foldG remR (n - (t.rest.length : Int) - (t.slots.length : Int)) t.rest := by
      rcases Int.lt_or_le (foldG remR (n - (t.rest.length : Int) - (t.slots.length : Int)) t.rest) 0 with h1 | h1
      · unfold leftS at h; rw [foldG_neg _ h1] at h; omega
      · exact h1
    obtain ⟨r1, r2, r3⟩ := HR _ _ hm0 hr0
    obtain ⟨s1, s2, s3⟩ := HS _ _ (by omega) h
    refine ⟨⟨by omega, by omega, r3, fun s hs => ⟨(s3 s hs).1, fun v hv => ⟨((s3 s hs).2 v hv).1, ((s3 s hs).2 v hv).2.1, fun u hu => (((s3 s hs).2 v hv).2.2 u hu).1⟩⟩⟩, fun _ => ?_, ?_⟩
    · unfold deepN
      have : supB (fun s : Slt => supB (fun v : Va => supB (deepN k) v.vm) s.svals) t.slots ≤ (d - 1).toNat := by
        apply supB_le; intro s hs
        apply supB_le; intro v hv
        apply supB_le; intro u hu
        have h1 := (((s3 s hs).2 v hv).2.2 u hu).2
        rcases Nat.eq_zero_or_pos k with rfl | hk
        · unfold deepN; omega
        · have := h1 hk; omega
      push_cast
      omega
    · unfold cntN
      push_cast
      omega

/-- What a walk through all trees makes of a number. -/
def visN (st : Nat → Tr → Nat → Nat) : Nat → Nat → Tr → Nat → Nat
  | 0, s, _, _ => s
  | k + 1, s, t, d => (kidsS t.slots).foldl (fun s c => visN st k s c (d + 1)) (st s t d)
theorem foldl_mono {α : Type} {g : Nat → α → Nat} (hg : ∀ s x, s ≤ g s x) : ∀ (l : List α) (s : Nat), s ≤ l.foldl g s
  | [], s => Nat.le_refl _
  | x :: l, s => Nat.le_trans (hg s x) (foldl_mono hg l (g s x))
theorem foldl_takele {α : Type} {g : Nat → α → Nat} (hg : ∀ s x, s ≤ g s x) (l : List α) (i s : Nat) : (l.take i).foldl g s ≤ l.foldl g s := by
  have e : l.foldl g s = (l.drop i).foldl g ((l.take i).foldl g s) := by rw [← List.foldl_append, List.take_append_drop]
  rw [e]
  exact foldl_mono hg _ _
theorem visN_mono {st : Nat → Tr → Nat → Nat} (hs : ∀ s t d, s ≤ st s t d) : ∀ (k s : Nat) (t : Tr) (d : Nat), s ≤ visN st k s t d
  | 0, s, _, _ => Nat.le_refl _
  | k + 1, s, t, d => Nat.le_trans (hs s t d) (foldl_mono (fun s c => visN_mono hs k s c (d + 1)) _ _)
theorem vis_deep : ∀ (k s : Nat) (t : Tr) (d : Nat), visN (fun s _ d => max s d) (k + 1) s t d = max s (d - 1 + deepN (k + 1) t) ∨ d = 0
  | k, s, t, 0 => .inr rfl
  | 0, s, t, d + 1 => .inl (by
      unfold visN
      have : ∀ (l : List Tr) (s : Nat), l.foldl (fun s c => visN (fun s _ d => max s d) 0 s c (d + 1 + 1)) s = s := fun l => by
        induction l with
        | nil => intro s; rfl
        | cons x l ih => intro s; exact ih s
      rw [this, deepN_kids]
      have h0 : supB (deepN 0) (kidsS t.slots) = 0 := by
        have := supB_le (deepN 0) (b := 0) (l := kidsS t.slots) (fun x _ => Nat.le_refl _)
        omega
      rw [h0]
      omega)
  | k + 1, s, t, d + 1 => .inl (by
      rw [visN, deepN_kids]
      have : ∀ (l : List Tr) (s : Nat), d + 1 ≤ s → l.foldl (fun s c => visN (fun s _ d => max s d) (k + 1) s c (d + 1 + 1)) s = max s (d + 1 + supB (deepN (k + 1)) l) := fun l => by
        induction l with
        | nil => intro s hs; simp only [List.foldl_nil, supB]; omega
        | cons x l ih =>
          intro s hs
          rw [List.foldl_cons]
          rcases vis_deep k s x (d + 1 + 1) with h | h
          · rw [h, ih _ (by omega), supB]; omega
          · omega
      rw [this _ _ (by omega)]
      omega)
theorem vis_count : ∀ (k s : Nat) (t : Tr) (d : Nat), visN (fun s t _ => s + ownC t) k s t d = s + (if k = 0 then 0 else cntN k t)
  | 0, s, t, d => rfl
  | k + 1, s, t, d => by
    rw [visN, if_neg (by omega), cntN_kids]
    have : ∀ (l : List Tr) (s : Nat), l.foldl (fun s c => visN (fun s t _ => s + ownC t) k s c (d + 1)) s = s + sumB (cntN k) l := fun l => by
      induction l with
      | nil => intro s; rfl
      | cons x l ih =>
        intro s
        rw [List.foldl_cons, ih, vis_count k s x (d + 1), sumB]
        split
        · subst_vars; simp only [cntN]; omega
        · omega
    rw [this]
    omega
end Go.Proofs.Ytakdkocobcicdaa
