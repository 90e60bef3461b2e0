/- Several texts in one: CurMath, RawMath, TrMath, VdFit. What each proves, and its conditions, stands at its own head. -/
import Derived.Lib.Varint
import Derived.Test.YtmdekdmcnnbofaaDoorPkVD0
import Derived.Lib.BitFns
import Derived.Laws.BitsLemmas
import Derived.Lib.EndianBits
import Derived.Test.YtmdekdmcnnbofaaDoorPkVD1
/- Layer 5 in plain words (no program here): a cursor's place and its frames (the innermost one first; none: it failed), and what each call reads. -/
namespace Go.Proofs.YtmdekdmcnnbofaaDoor
open Go.RowKit
open Go.Lib (uvarint)

structure St where
  at_ : Nat
  fr : List Nat
def St.none : St := ⟨0, []⟩

/-- How many bytes are read: 0: it fails. -/
def St.on (s : St) (k : Nat) : St := if k = 0 then St.none else ⟨s.at_ + k, s.fr⟩
def St.more (s : St) : Bool := match s.fr with
  | [] => false
  | l :: _ => decide (s.at_ < l)
end Go.Proofs.YtmdekdmcnnbofaaDoor

/- Layer 7 in plain words (no program here): a field, whether it is right, its bytes, and what a cursor reads. -/
namespace Go.Proofs.YtmdekdmcnnbofaaDoor
open Go.Lib (uvarint)
set_option linter.unusedVariables false

structure Rw where
  num : Int
  wire : Int
  n : Nat
  s : List UInt8
/-- Is a field right? -/
def okR (x : Rw) : Bool := rightB x.num x.wire && (if x.wire = 2 then decide (x.n = 0) else decide (x.s = []) && (decide (x.wire ≠ 5) || decide (x.n < 4294967296)))
end Go.Proofs.YtmdekdmcnnbofaaDoor

/- Trees, plain (no program here): how deep, how much, what is left of so much; what a walk through all of them makes. Conditions: those that each theorem names. -/
namespace Go.Proofs.YtmdekdmcnnbofaaDoor
set_option linter.unusedVariables false

structure VaF (τ : Type) where
  vn : Nat
  vs : List UInt8
  vm : List τ
structure SlF (τ : Type) where
  snum : Int
  svals : List (VaF τ)
inductive Tr where
  | mk (slots : List (SlF Tr)) (rest : List Rw)
abbrev Va := VaF Tr
abbrev Slt := SlF Tr
def Tr.slots : Tr → List Slt
  | .mk a _ => a
def Tr.rest : Tr → List Rw
  | .mk _ b => b
instance : Inhabited Tr := ⟨.mk [] []⟩
instance : Inhabited Va := ⟨⟨0, [], []⟩⟩
instance : Inhabited Slt := ⟨⟨0, []⟩⟩

/-- The greatest of what f says. -/
def supB {α : Type} (f : α → Nat) : List α → Nat
  | [] => 0
  | x :: l => max (f x) (supB f l)
def sumB {α : Type} (f : α → Nat) : List α → Nat
  | [] => 0
  | x :: l => f x + sumB f l
section
variable {α β : Type} (f : α → Nat)
theorem take_snoc' {l : List α} {i : Nat} {x : α} (h : l[i]? = some x) : l.take (i + 1) = l.take i ++ [x] := by
  rw [List.take_add_one, h]; rfl
theorem supB_le {b : Nat} : ∀ {l : List α}, (∀ x ∈ l, f x ≤ b) → supB f l ≤ b
  | [], _ => Nat.zero_le _
  | y :: l, h => by
    rw [supB]
    have := supB_le (l := l) (fun x hx => h x (List.mem_cons_of_mem _ hx))
    have := h y List.mem_cons_self
    omega
theorem sumB_add (g : α → Nat) : ∀ l : List α, sumB (fun x => f x + g x) l = sumB f l + sumB g l
  | [] => rfl
  | x :: l => by simp only [sumB]; rw [sumB_add g l]; omega
end

/-- How deep, down to a level. -/
def deepN : Nat → Tr → Nat
  | 0, _ => 0
  | k + 1, t => supB (fun s : Slt => supB (fun v : Va => supB (deepN k) v.vm) s.svals) t.slots + 1
def cntN : Nat → Tr → Nat
  | 0, _ => 0
  | k + 1, t => t.rest.length + sumB (fun s : Slt => s.svals.length + sumB (fun v : Va => sumB (cntN k) v.vm) s.svals) t.slots
/-- A round for each, as long as what there is is not below 0. -/
def foldG {α : Type} (f : Int → α → Int) (n : Int) (l : List α) : Int := l.foldl (fun n x => if 0 ≤ n then f n x else n) n
theorem foldG_neg {α : Type} (f : Int → α → Int) {n : Int} (h : n < 0) : ∀ l : List α, foldG f n l = n
  | [] => rfl
  | x :: l => by
    show foldG f (if 0 ≤ n then f n x else n) l = n
    rw [if_neg (by omega)]
    exact foldG_neg f h l
theorem foldG_take {α : Type} (f : Int → α → Int) (n : Int) {l : List α} {i : Nat} {x : α} (h : l[i]? = some x) (h0 : 0 ≤ foldG f n (l.take i)) : foldG f n (l.take (i + 1)) = f (foldG f n (l.take i)) x := by
  rw [take_snoc' h]
  unfold foldG at h0 ⊢
  rw [List.foldl_append, List.foldl_cons, List.foldl_nil, if_pos h0]
theorem foldG_stop {α : Type} (f : Int → α → Int) (n : Int) {l : List α} {i : Nat} (h0 : foldG f n (l.take i) < 0) : foldG f n l = foldG f n (l.take i) := by
  have e : foldG f n l = foldG f (foldG f n (l.take i)) (l.drop i) := by
    unfold foldG
    rw [← List.foldl_append, List.take_append_drop]
  rw [e, foldG_neg f h0]
theorem foldG_le {α : Type} {f : Int → α → Int} (hf : ∀ n x, f n x ≤ n) : ∀ (l : List α) (n : Int), foldG f n l ≤ n
  | [], n => Int.le_refl _
  | x :: l, n => by
    show foldG f (if 0 ≤ n then f n x else n) l ≤ n
    have h1 := hf n x
    by_cases h0 : 0 ≤ n
    · rw [if_pos h0]
      have := foldG_le hf l (f n x)
      omega
    · rw [if_neg h0]
      exact foldG_le hf l n
/-- Bounds below. -/
theorem foldG_lo {α : Type} {f : Int → α → Int} {b : Int} : ∀ (l : List α) (n : Int), (∀ n x, x ∈ l → 0 ≤ n → b ≤ f n x) → b ≤ n → b ≤ foldG f n l
  | [], n, _, h => h
  | x :: l, n, hf, h => by
    show b ≤ foldG f (if 0 ≤ n then f n x else n) l
    apply foldG_lo l _ (fun n y hy => hf n y (List.mem_cons_of_mem _ hy))
    split
    · exact hf n x List.mem_cons_self ‹_›
    · exact h
theorem foldG_all {α : Type} {f : Int → α → Int} (c : α → Nat) (hf : ∀ n x, 0 ≤ n → 0 ≤ f n x → f n x + (c x : Int) ≤ n) : ∀ (l : List α) (n : Int), 0 ≤ foldG f n l → 0 ≤ n ∧ foldG f n l + (sumB c l : Int) ≤ n ∧ ∀ x ∈ l, ∃ m, 0 ≤ m ∧ m ≤ n ∧ 0 ≤ f m x
  | [], n, h => ⟨h, by show n + 0 ≤ n; omega, fun x hx => by simp at hx⟩
  | x :: l, n, h => by
    have h0 : 0 ≤ n := by
      rcases Int.lt_or_le n 0 with h1 | h1
      · rw [foldG_neg f h1] at h; omega
      · exact h1
    have e : foldG f n (x :: l) = foldG f (f n x) l := by show foldG f (if 0 ≤ n then f n x else n) l = _; rw [if_pos h0]
    rw [e] at h ⊢
    obtain ⟨h1, h2, h3⟩ := foldG_all c hf l (f n x) h
    have h4 := hf n x h0 h1
    refine ⟨h0, by rw [sumB]; push_cast; omega, fun y hy => ?_⟩
    rcases List.mem_cons.mp hy with rfl | hy
    · exact ⟨n, h0, by omega, h1⟩
    · obtain ⟨m, a, b, c'⟩ := h3 y hy
      exact ⟨m, a, by omega, c'⟩

def remR (n : Int) (r : Rw) : Int := n - ((r.s.length / 20 : Nat) : Int)
def leftM (lf : Tr → Int → Int) (n : Int) (l : List Tr) : Int := foldG (fun n t => lf t (n - 1)) n l
def leftV (lf : Tr → Int → Int) (n : Int) (l : List Va) : Int := foldG (fun n v => leftM lf (n - ((v.vs.length / 20 : Nat) : Int)) v.vm) n l
def leftS (lf : Tr → Int → Int) (n : Int) (l : List Slt) : Int := foldG (fun n s => leftV lf (n - (s.svals.length : Int)) s.svals) n l
/-- How much of so much a tree leaves. -/
def leftN : Nat → Tr → Int → Int → Int
  | 0, _, n, _ => n
  | k + 1, t, n, d => if d ≤ 0 then -1 else leftS (fun u m => leftN k u m (d - 1)) (foldG remR (n - (t.rest.length : Int) - (t.slots.length : Int)) t.rest) t.slots
/-- No list and no text is too long, down to a level. -/
def OkN : Nat → Tr → Prop
  | 0, _ => True
  | k + 1, t => t.slots.length ≤ 140737488351232 ∧ t.rest.length ≤ 140737488351232 ∧ (∀ r ∈ t.rest, r.s.length ≤ 140737488351232) ∧ ∀ s ∈ t.slots, s.svals.length ≤ 140737488351232 ∧ ∀ v ∈ s.svals, (v.vs.length ≤ 140737488351232 ∧ v.vn < 18446744073709551616) ∧ v.vm.length ≤ 140737488351232 ∧ ∀ u ∈ v.vm, OkN k u
/-- All is short. -/
def FitN : Nat → Tr → Prop
  | 0, _ => True
  | k + 1, t => t.slots.length ≤ 1000 ∧ t.rest.length ≤ 1000 ∧ (∀ r ∈ t.rest, r.s.length ≤ 100000) ∧ ∀ s ∈ t.slots, s.svals.length ≤ 1000 ∧ ∀ v ∈ s.svals, v.vs.length ≤ 100000 ∧ v.vm.length ≤ 1000 ∧ ∀ u ∈ v.vm, FitN k u
theorem leftN_lo : ∀ (k : Nat) (t : Tr) (n d : Int), OkN k t → -1 ≤ n → -281474976710656 ≤ leftN k t n d
  | 0, t, n, d, _, h => by unfold leftN; omega
  | k + 1, t, n, d, ho, h => by
    obtain ⟨o1, o2, o3, o4⟩ := ho
    unfold leftN
    split
    · omega
    · apply foldG_lo
      · intro m s hs hm
        apply foldG_lo
        · intro m v hv hm
          apply foldG_lo
          · intro m u hu hm
            exact leftN_lo k u _ _ ((((o4 s hs).2 v hv).2.2) u hu) (by omega)
          · have := ((o4 s hs).2 v hv).1; omega
        · have := (o4 s hs).1; omega
      · apply foldG_lo
        · intro m r hr hm
          unfold remR
          have := o3 r hr
          omega
        · omega
theorem leftN_le : ∀ (k : Nat) (t : Tr) (n d : Int), -1 ≤ n → leftN k t n d ≤ n
  | 0, t, n, d, _ => by unfold leftN; omega
  | k + 1, t, n, d, hn => by
    unfold leftN
    split
    · exact hn
    · have hM : ∀ (m : Int) (l : List Tr), leftM (fun u m => leftN k u m (d - 1)) m l ≤ m := fun m l => by
        unfold leftM
        induction l generalizing m with
        | nil => exact Int.le_refl _
        | cons x l ih =>
          by_cases h0 : 0 ≤ m
          · have e : foldG (fun n t => (fun u m => leftN k u m (d - 1)) t (n - 1)) m (x :: l) = foldG (fun n t => (fun u m => leftN k u m (d - 1)) t (n - 1)) (leftN k x (m - 1) (d - 1)) l := by
              show foldG _ (if 0 ≤ m then _ else m) l = _
              rw [if_pos h0]
            rw [e]
            have h1 := ih (leftN k x (m - 1) (d - 1))
            have h2 := leftN_le k x (m - 1) (d - 1) (by omega)
            exact Int.le_trans h1 (by omega)
          · rw [foldG_neg _ (by omega)]
            exact Int.le_refl _
      have hV : ∀ (m : Int) (l : List Va), leftV (fun u m => leftN k u m (d - 1)) m l ≤ m := fun m l => foldG_le (fun m v => Int.le_trans (hM _ _) (by omega)) l m
      have hS : ∀ (m : Int) (l : List Slt), leftS (fun u m => leftN k u m (d - 1)) m l ≤ m := fun m l => foldG_le (fun m s => Int.le_trans (hV _ _) (by omega)) l m
      have hR : ∀ (m : Int) (l : List Rw), foldG remR m l ≤ m := fun m l => foldG_le (fun m r => by unfold remR; omega) l m
      have h1 := hS (foldG remR (n - (t.rest.length : Int) - (t.slots.length : Int)) t.rest) t.slots
      have h2 := hR (n - (t.rest.length : Int) - (t.slots.length : Int)) t.rest
      omega
theorem left_fits : ∀ (k : Nat) (t : Tr) (n d : Int), n ≤ 400 → 0 ≤ leftN k t n d → FitN k t ∧ (0 < k → (deepN k t : Int) ≤ d) ∧ leftN k t n d + (cntN k t : Int) ≤ n
  | 0, t, n, d, _, h => ⟨trivial, fun h => absurd h (Nat.lt_irrefl _), by unfold leftN cntN; omega⟩
  | k + 1, t, n, d, hn, h => by
    unfold leftN at h ⊢
    split at h
    · omega
    rename_i hd
    rw [if_neg hd]
    obtain ⟨lf, hlf⟩ : ∃ lf, lf = (fun (u : Tr) (m : Int) => leftN k u m (d - 1)) := ⟨_, rfl⟩
    rw [← hlf] at h ⊢
    have HL : ∀ u m, m ≤ 400 → 0 ≤ lf u m → FitN k u ∧ (0 < k → (deepN k u : Int) ≤ d - 1) ∧ lf u m + (cntN k u : Int) ≤ m := fun u m hm h => by
      rw [hlf] at h ⊢
      exact left_fits k u m (d - 1) hm h
    have HM : ∀ (m : Int) (l : List Tr), m ≤ 400 → 0 ≤ leftM lf m l → leftM lf m l + (sumB (fun u => cntN k u + 1) l : Int) ≤ m ∧ 0 ≤ m ∧ ∀ u ∈ l, FitN k u ∧ (0 < k → (deepN k u : Int) ≤ d - 1) := by
      intro m l
      induction l generalizing m with
      | nil => intro _ h; exact ⟨by show m + 0 ≤ m; omega, h, fun u hu => by simp at hu⟩
      | cons x l ih =>
        intro hm h
        have h0 : 0 ≤ m := by
          rcases Int.lt_or_le m 0 with h1 | h1
          · unfold leftM at h; rw [foldG_neg _ h1] at h; omega
          · exact h1
        have e : leftM lf m (x :: l) = leftM lf (lf x (m - 1)) l := by show foldG _ (if 0 ≤ m then _ else m) l = _; rw [if_pos h0]; rfl
        rw [e] at h ⊢
        have hle : lf x (m - 1) ≤ m - 1 := by rw [hlf]; exact leftN_le k x (m - 1) (d - 1) (by omega)
        obtain ⟨i1, i2, i3⟩ := ih (lf x (m - 1)) (by omega) h
        obtain ⟨j1, j2, j3⟩ := HL x (m - 1) (by omega) i2
        refine ⟨by rw [sumB, Int.natCast_add]; omega, h0, fun u hu => ?_⟩
        rcases List.mem_cons.mp hu with rfl | hu
        · exact ⟨j1, j2⟩
        · exact i3 u hu
    have HV : ∀ (m : Int) (l : List Va), m ≤ 400 → 0 ≤ leftV lf m l → leftV lf m l + (sumB (fun v : Va => sumB (cntN k) v.vm) l : Int) ≤ m ∧ 0 ≤ m ∧ ∀ v ∈ l, v.vs.length ≤ 100000 ∧ v.vm.length ≤ 1000 ∧ ∀ u ∈ v.vm, FitN k u ∧ (0 < k → (deepN k u : Int) ≤ d - 1) := by
      intro m l
      induction l generalizing m with
      | nil => intro _ h; exact ⟨by show m + 0 ≤ m; omega, h, fun u hu => by simp at hu⟩
      | cons x l ih =>
        intro hm h
        have h0 : 0 ≤ m := by
          rcases Int.lt_or_le m 0 with h1 | h1
          · unfold leftV at h; rw [foldG_neg _ h1] at h; omega
          · exact h1
        have e : leftV lf m (x :: l) = leftV lf (leftM lf (m - ((x.vs.length / 20 : Nat) : Int)) x.vm) l := by show foldG _ (if 0 ≤ m then _ else m) l = _; rw [if_pos h0]; rfl
        rw [e] at h ⊢
        have hx0 : 0 ≤ leftM lf (m - ((x.vs.length / 20 : Nat) : Int)) x.vm := by
          rcases Int.lt_or_le (leftM lf (m - ((x.vs.length / 20 : Nat) : Int)) x.vm) 0 with h1 | h1
          · unfold leftV at h; rw [foldG_neg _ h1] at h; omega
          · exact h1
        obtain ⟨j1, j2, j3⟩ := HM (m - ((x.vs.length / 20 : Nat) : Int)) x.vm (by omega) hx0
        have js : (x.vm.length : Int) ≤ (sumB (fun u => cntN k u + 1) x.vm : Nat) := by
          have : ∀ l : List Tr, l.length ≤ sumB (fun u => cntN k u + 1) l := fun l => by
            induction l with
            | nil => exact Nat.le_refl _
            | cons y l ih => simp only [sumB, List.length_cons]; omega
          exact Int.ofNat_le.mpr (this x.vm)
        have jc : (sumB (cntN k) x.vm : Int) ≤ (sumB (fun u => cntN k u + 1) x.vm : Nat) := by
          rw [sumB_add]; omega
        obtain ⟨i1, i2, i3⟩ := ih _ (by omega) h
        refine ⟨by rw [sumB, Int.natCast_add]; omega, h0, fun v hv => ?_⟩
        rcases List.mem_cons.mp hv with rfl | hv
        · exact ⟨by omega, by omega, j3⟩
        · exact i3 v hv
    have HS : ∀ (m : Int) (l : List Slt), m ≤ 400 → 0 ≤ leftS lf m l → leftS lf m l + (sumB (fun s : Slt => s.svals.length + sumB (fun v : Va => sumB (cntN k) v.vm) s.svals) l : Int) ≤ m ∧ 0 ≤ m ∧ ∀ s ∈ l, s.svals.length ≤ 1000 ∧ ∀ v ∈ s.svals, v.vs.length ≤ 100000 ∧ v.vm.length ≤ 1000 ∧ ∀ u ∈ v.vm, FitN k u ∧ (0 < k → (deepN k u : Int) ≤ d - 1) := by
      intro m l
      induction l generalizing m with
      | nil => intro _ h; exact ⟨by show m + 0 ≤ m; omega, h, fun u hu => by simp at hu⟩
      | cons x l ih =>
        intro hm h
        have h0 : 0 ≤ m := by
          rcases Int.lt_or_le m 0 with h1 | h1
          · unfold leftS at h; rw [foldG_neg _ h1] at h; omega
          · exact h1
        have e : leftS lf m (x :: l) = leftS lf (leftV lf (m - (x.svals.length : Int)) x.svals) l := by show foldG _ (if 0 ≤ m then _ else m) l = _; rw [if_pos h0]; rfl
        rw [e] at h ⊢
        have hx0 : 0 ≤ leftV lf (m - (x.svals.length : Int)) x.svals := by
          rcases Int.lt_or_le (leftV lf (m - (x.svals.length : Int)) x.svals) 0 with h1 | h1
          · unfold leftS at h; rw [foldG_neg _ h1] at h; omega
          · exact h1
        obtain ⟨j1, j2, j3⟩ := HV (m - (x.svals.length : Int)) x.svals (by omega) hx0
        obtain ⟨i1, i2, i3⟩ := ih _ (by omega) h
        refine ⟨by rw [sumB, Int.natCast_add]; omega, h0, fun v hv => ?_⟩
        rcases List.mem_cons.mp hv with rfl | hv
        · exact ⟨by omega, j3⟩
        · exact i3 v hv
    have HR : ∀ (l : List Rw) (m : Int), m ≤ 400 → 0 ≤ foldG remR m l → foldG remR m l ≤ m ∧ 0 ≤ m ∧ ∀ r ∈ l, r.s.length ≤ 100000 := by
      intro l m hm h
      obtain ⟨a, b, c⟩ := foldG_all (f := remR) (fun r => r.s.length / 20) (fun n x _ _ => by unfold remR; omega) l m h
      refine ⟨by omega, a, fun r hr => ?_⟩
      obtain ⟨q, q1, q2, q3⟩ := c r hr
      unfold remR at q3
      omega
    have hm0 : (n - (t.rest.length : Int) - (t.slots.length : Int)) ≤ 400 := by omega
    have hr0 : 0 ≤ foldG remR (n - (t.rest.length : Int) - (t.slots.length : Int)) t.rest := by
      rcases Int.lt_or_le (foldG remR (n - (t.rest.length : Int) - (t.slots.length : Int)) t.rest) 0 with h1 | h1
      · unfold leftS at h; rw [foldG_neg _ h1] at h; omega
      · exact h1
    obtain ⟨r1, r2, r3⟩ := HR _ _ hm0 hr0
    obtain ⟨s1, s2, s3⟩ := HS _ _ (by omega) h
    refine ⟨⟨by omega, by omega, r3, fun s hs => ⟨(s3 s hs).1, fun v hv => ⟨((s3 s hs).2 v hv).1, ((s3 s hs).2 v hv).2.1, fun u hu => (((s3 s hs).2 v hv).2.2 u hu).1⟩⟩⟩, fun _ => ?_, ?_⟩
    · unfold deepN
      have : supB (fun s : Slt => supB (fun v : Va => supB (deepN k) v.vm) s.svals) t.slots ≤ (d - 1).toNat := by
        apply supB_le; intro s hs
        apply supB_le; intro v hv
        apply supB_le; intro u hu
        have h1 := (((s3 s hs).2 v hv).2.2 u hu).2
        rcases Nat.eq_zero_or_pos k with rfl | hk
        · unfold deepN; omega
        · have := h1 hk; omega
      push_cast
      omega
    · unfold cntN
      push_cast
      omega

end Go.Proofs.YtmdekdmcnnbofaaDoor

/- Layer 20: slots that are short (no program here). Conditions: those that each theorem names. -/
namespace Go.Proofs.YtmdekdmcnnbofaaDoor
set_option linter.unusedVariables false

def FitS (n : Nat) (x : Slt) : Prop := x.svals.length ≤ 1000 ∧ ∀ v ∈ x.svals, v.vs.length ≤ 100000 ∧ v.vm.length ≤ 1000 ∧ ∀ u ∈ v.vm, FitN n u
def BitS (n : Nat) (x : Slt) : Prop := ∀ v ∈ x.svals, v.vn < 18446744073709551616 ∧ ∀ u ∈ v.vm, OkN n u
theorem fit_slots {n : Nat} {t : Tr} (h : FitN (n + 1) t) {x : Slt} (hx : x ∈ t.slots) : FitS n x := h.2.2.2 x hx
theorem bit_slots {n : Nat} {t : Tr} (h : OkN (n + 1) t) {x : Slt} (hx : x ∈ t.slots) : BitS n x := fun v hv => ⟨((h.2.2.2 x hx).2 v hv).1.2, ((h.2.2.2 x hx).2 v hv).2.2⟩

end Go.Proofs.YtmdekdmcnnbofaaDoor
