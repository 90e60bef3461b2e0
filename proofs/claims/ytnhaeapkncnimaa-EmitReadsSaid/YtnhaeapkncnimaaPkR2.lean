/- Several texts in one: EmMath, EmRel. What each proves, and its conditions, stands at its own head. -/
import Derived.Laws.CopyOwn
/- Plain words for a writer (no program here): what its bytes and its frames are, and what laying the frames' heads makes of the bytes. -/
namespace Go.Proofs.Ytnhaeapkncnimaa
set_option linter.unusedVariables false

structure Fr where
  tag : Nat
  place : Nat
  before : Nat
  head : List UInt8
structure Ws where
  raw : List UInt8
  fs : List Fr
  op : List Nat
  room : Nat

def nextP (n : Nat) : List Fr → Nat
  | [] => n
  | f :: _ => f.place
/-- The bytes from the first of these frames on. -/
def laid (raw : List UInt8) : List Fr → List UInt8
  | [] => []
  | f :: r => f.head ++ ((raw.drop f.place).take (nextP raw.length r - f.place) ++ laid raw r)
def headSum : List Fr → Nat
  | [] => 0
  | f :: r => f.head.length + headSum r
/-- Places rise, up to n. -/
def Asc (n : Nat) : List Fr → Prop
  | [] => True
  | f :: r => f.place ≤ nextP n r ∧ Asc n r
def Ws.lay (s : Ws) : Ws := ⟨s.raw.take (nextP s.raw.length s.fs) ++ laid s.raw s.fs, [], s.op, 0⟩

theorem headSum_append (a b : List Fr) : headSum (a ++ b) = headSum a + headSum b := by
  induction a with
  | nil => simp [headSum]
  | cons f a ih => simp [headSum, ih]; omega
theorem nextP_le {n : Nat} : ∀ {fs : List Fr}, Asc n fs → nextP n fs ≤ n
  | [], _ => Nat.le_refl _
  | f :: r, h => Nat.le_trans h.1 (nextP_le h.2)
theorem Asc.drop {n : Nat} : ∀ {fs : List Fr} (k : Nat), Asc n fs → Asc n (fs.drop k)
  | [], k, _ => by simp [Asc]
  | f :: r, 0, h => h
  | f :: r, k + 1, h => by rw [List.drop_succ_cons]; exact Asc.drop k h.2
theorem laid_length {raw : List UInt8} : ∀ {fs : List Fr}, Asc raw.length fs → (laid raw fs).length + nextP raw.length fs = raw.length + headSum fs
  | [], _ => by simp [laid, nextP, headSum]
  | f :: r, h => by
    have ih := laid_length h.2
    have h1 := nextP_le h.2
    have h2 := h.1
    have e : nextP raw.length (f :: r) = f.place := rfl
    rw [e]
    simp only [laid, headSum, List.length_append, List.length_take, List.length_drop]
    omega

/-- The bytes while heads are laid: of the frames 'todo ++ done', done's are. -/
structure Buf (raw : List UInt8) (todo don : List Fr) (b : List UInt8) (frm to : Nat) : Prop where
  len : b.length = raw.length + headSum (todo ++ don)
  fr : frm = nextP raw.length don
  to_ : to = frm + headSum todo
  head : b.take frm = raw.take frm
  tail : b.drop to = laid raw don
theorem Buf.start (raw : List UInt8) (fs : List Fr) (z : List UInt8) (hz : z.length = headSum fs) : Buf raw fs [] (raw ++ z) raw.length (raw.length + headSum fs) :=
  ⟨by simp [hz], rfl, rfl, by simp, by rw [List.drop_eq_nil_of_le (by simp [hz])]; rfl⟩
theorem Buf.stop {raw : List UInt8} {fs : List Fr} {b : List UInt8} {frm to : Nat} (h : Buf raw [] fs b frm to) : b = raw.take (nextP raw.length fs) ++ laid raw fs := by
  obtain ⟨h1, h2, h3, h4, h5⟩ := h
  simp [headSum] at h3
  subst h3
  rw [← h5, ← h2, ← h4, List.take_append_drop]

theorem splice_take {α : Type} (L : List α) (off : Nat) (cs : List α) (n : Nat) (h : n ≤ off) (ho : off ≤ L.length) : (splice L off cs).take n = L.take n := by
  unfold splice
  rw [List.take_append_of_le_length (by rw [List.length_take]; omega), List.take_take, Nat.min_eq_left h]
theorem splice_drop {α : Type} (L : List α) (off : Nat) (cs : List α) (ho : off ≤ L.length) : (splice L off cs).drop off = cs ++ L.drop (off + cs.length) := by
  unfold splice
  have hl : (L.take off).length = off := by rw [List.length_take]; omega
  have h1 := List.drop_left (l₁ := L.take off) (l₂ := cs ++ L.drop (off + cs.length))
  rwa [hl] at h1

/-- One round: the frame f is the last that is to be done. -/
theorem Buf.step {raw : List UInt8} {todo don : List Fr} {f : Fr} {b : List UInt8} {frm to : Nat} (h : Buf raw (todo ++ [f]) don b frm to) (hasc : Asc raw.length (f :: don)) :
    f.place ≤ frm ∧ frm ≤ raw.length ∧ to ≤ b.length ∧ f.place + f.head.length + (frm - f.place) ≤ to ∧
    (b.take frm).drop f.place = (raw.drop f.place).take (frm - f.place) ∧
    Buf raw todo (f :: don) (splice (splice b (to - (frm - f.place)) ((b.take frm).drop f.place)) (to - (frm - f.place) - f.head.length) f.head) f.place (to - (frm - f.place) - f.head.length) := by
  obtain ⟨h1, h2, h3, h4, h5⟩ := h
  have hp : f.place ≤ frm := by rw [h2]; exact hasc.1
  have hle : frm ≤ raw.length := by rw [h2]; exact nextP_le hasc.2
  rw [headSum_append] at h3
  simp only [headSum, Nat.add_zero] at h3
  rw [headSum_append, headSum_append] at h1
  simp only [headSum, Nat.add_zero] at h1
  have hseg : (b.take frm).drop f.place = (raw.drop f.place).take (frm - f.place) := by rw [h4, List.drop_take]
  have hsl : ((b.take frm).drop f.place).length = frm - f.place := by rw [List.length_drop, List.length_take]; omega
  refine ⟨hp, hle, by omega, by omega, hseg, ?_⟩
  obtain ⟨sg, hsg⟩ : ∃ sg, sg = (b.take frm).drop f.place := ⟨_, rfl⟩
  rw [← hsg] at hsl hseg ⊢
  have l1 : (splice b (to - (frm - f.place)) sg).length = b.length := length_splice _ _ _ (by omega)
  have l2 : (splice (splice b (to - (frm - f.place)) sg) (to - (frm - f.place) - f.head.length) f.head).length = b.length := by rw [length_splice _ _ _ (by omega), l1]
  refine ⟨?_, rfl, by omega, ?_, ?_⟩
  · rw [l2, headSum_append]
    simp only [headSum]
    omega
  · rw [splice_take _ _ _ _ (by omega) (by omega), splice_take _ _ _ _ (by omega) (by omega)]
    have := congrArg (List.take f.place) h4
    rwa [List.take_take, List.take_take, Nat.min_eq_left hp] at this
  · rw [splice_drop _ _ _ (by omega), show to - (frm - f.place) - f.head.length + f.head.length = to - (frm - f.place) by omega, splice_drop _ _ _ (by omega), hsl, show to - (frm - f.place) + (frm - f.place) = to by omega, h5, hseg, laid, ← h2]
end Go.Proofs.Ytnhaeapkncnimaa

/- Plain words (no program here): how the writer's frames and the document's parts say the same. -/
namespace Go.Proofs.Ytnhaeapkncnimaa
set_option linter.unusedVariables false

/-- What each of these frames lays: its head, and the bytes up to the next. -/
def pieces (raw : List UInt8) : List Fr → List (List UInt8)
  | [] => []
  | f :: r => (f.head ++ (raw.drop f.place).take (nextP raw.length r - f.place)) :: pieces raw r
def alls (raw : List UInt8) (fs : List Fr) : List (List UInt8) := raw.take (nextP raw.length fs) :: pieces raw fs
theorem laid_pieces (raw : List UInt8) : ∀ fs : List Fr, laid raw fs = (pieces raw fs).flatten
  | [] => rfl
  | f :: r => by rw [laid, pieces, List.flatten_cons, laid_pieces raw r, List.append_assoc]
theorem alls_flat (raw : List UInt8) (fs : List Fr) : (alls raw fs).flatten = raw.take (nextP raw.length fs) ++ laid raw fs := by
  rw [alls, List.flatten_cons, laid_pieces]
theorem pieces_length (raw : List UInt8) : ∀ fs : List Fr, (pieces raw fs).length = fs.length
  | [] => rfl
  | f :: r => by rw [pieces, List.length_cons, List.length_cons, pieces_length raw r]
theorem alls_length (raw : List UInt8) (fs : List Fr) : (alls raw fs).length = fs.length + 1 := by rw [alls, List.length_cons, pieces_length]
theorem alls_total {raw : List UInt8} {fs : List Fr} (h : Asc raw.length fs) : (alls raw fs).flatten.length = raw.length + headSum fs := by
  have h1 := laid_length h
  have h2 := nextP_le h
  rw [alls_flat, List.length_append, List.length_take]
  omega
/-- Bytes behind: the last piece grows. -/
theorem pieces_more {raw : List UInt8} (b : List UInt8) : ∀ {f : Fr} {r : List Fr}, Asc raw.length (f :: r) → ∃ i l, pieces raw (f :: r) = i ++ [l] ∧ pieces (raw ++ b) (f :: r) = i ++ [l ++ b]
  | f, [], h => by
    have h1 : f.place ≤ raw.length := h.1
    refine ⟨[], f.head ++ (raw.drop f.place).take (raw.length - f.place), by simp [pieces, nextP], ?_⟩
    simp only [pieces, nextP, List.nil_append, List.append_assoc, List.length_append]
    rw [List.drop_append_of_le_length h1, List.take_of_length_le (l := raw.drop f.place ++ b) (by simp; omega), List.take_of_length_le (l := raw.drop f.place) (by simp)]
  | f, g :: r, h => by
    obtain ⟨i, l, e1, e2⟩ := pieces_more b h.2
    have h1 : f.place ≤ g.place := h.1
    have h2 : g.place ≤ raw.length := nextP_le h.2
    refine ⟨(f.head ++ (raw.drop f.place).take (g.place - f.place)) :: i, l, by rw [pieces, e1]; rfl, ?_⟩
    rw [pieces, e2]
    simp only [nextP]
    rw [List.drop_append_of_le_length (by omega), List.take_append_of_le_length (by simp; omega)]
    rfl
theorem asc_more {n : Nat} (k : Nat) : ∀ {fs : List Fr}, Asc n fs → Asc (n + k) fs
  | [], _ => trivial
  | f :: r, h => ⟨by
      have h1 := h.1
      cases r with
      | nil => exact Nat.le_trans h1 (Nat.le_add_right _ _)
      | cons g r => exact h1, asc_more k h.2⟩
theorem alls_more {raw : List UInt8} {fs : List Fr} (b : List UInt8) (h : Asc raw.length fs) : ∃ i l, alls raw fs = i ++ [l] ∧ alls (raw ++ b) fs = i ++ [l ++ b] := by
  cases fs with
  | nil => exact ⟨[], raw, by simp [alls, nextP, pieces], by simp [alls, nextP, pieces]; exact List.take_of_length_le (by simp)⟩
  | cons f r =>
    obtain ⟨i, l, e1, e2⟩ := pieces_more b h
    have h1 : f.place ≤ raw.length := nextP_le h
    refine ⟨raw.take f.place :: i, l, by rw [alls, e1]; rfl, ?_⟩
    rw [alls, e2]
    simp only [nextP]
    rw [List.take_append_of_le_length h1]
    rfl
/-- A frame more, of nothing. -/
theorem nextP_snoc (n : Nat) (f : Fr) (hf : f.place = n) : ∀ fs : List Fr, nextP n (fs ++ [f]) = nextP n fs
  | [] => hf
  | g :: r => rfl
theorem pieces_snoc {raw : List UInt8} {f : Fr} (hf : f.place = raw.length) (hh : f.head = []) : ∀ fs : List Fr, pieces raw (fs ++ [f]) = pieces raw fs ++ [[]]
  | [] => by simp [pieces, nextP, hf, hh]
  | g :: r => by rw [List.cons_append, pieces, pieces_snoc hf hh r, nextP_snoc _ f hf, pieces]; rfl
theorem alls_snoc {raw : List UInt8} {f : Fr} (hf : f.place = raw.length) (hh : f.head = []) (fs : List Fr) : alls raw (fs ++ [f]) = alls raw fs ++ [[]] := by
  rw [alls, pieces_snoc hf hh, nextP_snoc _ f hf, alls]; rfl
theorem asc_snoc {n : Nat} {f : Fr} (hf : f.place = n) : ∀ {fs : List Fr}, Asc n fs → Asc n (fs ++ [f])
  | [], _ => ⟨Nat.le_of_eq hf, trivial⟩
  | g :: r, h => ⟨by show g.place ≤ nextP n (r ++ [f]); rw [nextP_snoc _ f hf]; exact h.1, asc_snoc hf h.2⟩
/-- A frame's head is there. -/
theorem nextP_set (n : Nat) {g : Fr} : ∀ (fs : List Fr) (o : Nat) {f : Fr}, fs[o]? = some f → g.place = f.place → nextP n (fs.set o g) = nextP n fs
  | [], _, _, h, _ => by simp at h
  | a :: r, 0, f, h, hg => by simp at h; subst h; exact hg
  | a :: r, o + 1, f, h, hg => rfl
theorem asc_set {n : Nat} {g : Fr} : ∀ {fs : List Fr} (o : Nat) {f : Fr}, fs[o]? = some f → g.place = f.place → Asc n fs → Asc n (fs.set o g)
  | [], _, _, h, _, _ => by simp at h
  | a :: r, 0, f, h, hg, ha => by simp at h; subst h; exact ⟨by show g.place ≤ _; rw [hg]; exact ha.1, ha.2⟩
  | a :: r, o + 1, f, h, hg, ha => ⟨by show a.place ≤ nextP n (r.set o g); rw [nextP_set n r o (by simpa using h) hg]; exact ha.1, asc_set o (by simpa using h) hg ha.2⟩
theorem headSum_set {g : Fr} : ∀ (fs : List Fr) (o : Nat) {f : Fr}, fs[o]? = some f → f.head = [] → headSum (fs.set o g) = headSum fs + g.head.length
  | [], _, _, h, _ => by simp at h
  | a :: r, 0, f, h, hf => by simp at h; subst h; simp [headSum, hf]; omega
  | a :: r, o + 1, f, h, hf => by
    have := headSum_set (g := g) r o (by simpa using h) hf
    simp only [List.set_cons_succ, headSum, this]; omega
theorem pieces_set (raw : List UInt8) {g : Fr} : ∀ (fs : List Fr) (o : Nat) {f : Fr}, fs[o]? = some f → f.head = [] → g.place = f.place →
    ∃ a x b, pieces raw fs = a ++ x :: b ∧ a.length = o ∧ pieces raw (fs.set o g) = a ++ (g.head ++ x) :: b
  | [], _, _, h, _, _ => by simp at h
  | c :: r, 0, f, h, hf, hg => by
    simp at h
    subst h
    refine ⟨[], _, pieces raw r, rfl, rfl, ?_⟩
    simp [pieces, hf, hg]
  | c :: r, o + 1, f, h, hf, hg => by
    obtain ⟨a, x, b, e1, e2, e3⟩ := pieces_set raw r o (by simpa using h) hf hg
    refine ⟨(c.head ++ (raw.drop c.place).take (nextP raw.length r - c.place)) :: a, x, b, by rw [pieces, e1]; rfl, by simp [e2], ?_⟩
    rw [List.set_cons_succ, pieces, e3, nextP_set _ r o (by simpa using h) hg]
    rfl
theorem alls_set {raw : List UInt8} {fs : List Fr} {o : Nat} {f g : Fr} (h : fs[o]? = some f) (hf : f.head = []) (hg : g.place = f.place) :
    ∃ a x b, alls raw fs = a ++ x :: b ∧ a.length = o + 1 ∧ alls raw (fs.set o g) = a ++ (g.head ++ x) :: b := by
  obtain ⟨a, x, b, e1, e2, e3⟩ := pieces_set raw fs o h hf hg
  exact ⟨raw.take (nextP raw.length fs) :: a, x, b, by rw [alls, e1]; rfl, by simp [e2], by rw [alls, e3, nextP_set _ fs o h hg]; rfl⟩
end Go.Proofs.Ytnhaeapkncnimaa
