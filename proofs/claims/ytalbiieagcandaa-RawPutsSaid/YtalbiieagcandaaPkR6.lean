/- Several texts in one: EmMath. What each proves, and its conditions, stands at its own head. -/
import Derived.Laws.CopyOwn
/- Plain words for a writer (no program here): what its bytes and its frames are, and what laying the frames' heads makes of the bytes. -/
namespace Go.Proofs.Ytalbiieagcandaa
set_option linter.unusedVariables false

structure Fr where
  tag : Nat
  place : Nat
  before : Nat
  head : List UInt8
structure Ws where
  raw : List UInt8
  fs : List Fr
  op : List Nat
  room : Nat

def nextP (n : Nat) : List Fr → Nat
  | [] => n
  | f :: _ => f.place
/-- The bytes from the first of these frames on. -/
def laid (raw : List UInt8) : List Fr → List UInt8
  | [] => []
  | f :: r => f.head ++ ((raw.drop f.place).take (nextP raw.length r - f.place) ++ laid raw r)
def headSum : List Fr → Nat
  | [] => 0
  | f :: r => f.head.length + headSum r
/-- Places rise, up to n. -/
def Asc (n : Nat) : List Fr → Prop
  | [] => True
  | f :: r => f.place ≤ nextP n r ∧ Asc n r
def Ws.lay (s : Ws) : Ws := ⟨s.raw.take (nextP s.raw.length s.fs) ++ laid s.raw s.fs, [], s.op, 0⟩

theorem headSum_append (a b : List Fr) : headSum (a ++ b) = headSum a + headSum b := by
  induction a with
  | nil => simp [headSum]
  | cons f a ih => simp [headSum, ih]; omega
theorem nextP_le {n : Nat} : ∀ {fs : List Fr}, Asc n fs → nextP n fs ≤ n
  | [], _ => Nat.le_refl _
  | f :: r, h => Nat.le_trans h.1 (nextP_le h.2)
theorem Asc.drop {n : Nat} : ∀ {fs : List Fr} (k : Nat), Asc n fs → Asc n (fs.drop k)
  | [], k, _ => by simp [Asc]
  | f :: r, 0, h => h
  | f :: r, k + 1, h => by rw [List.drop_succ_cons]; exact Asc.drop k h.2
theorem laid_length {raw : List UInt8} : ∀ {fs : List Fr}, Asc raw.length fs → (laid raw fs).length + nextP raw.length fs = raw.length + headSum fs
  | [], _ => by simp [laid, nextP, headSum]
  | f :: r, h => by
    have ih := laid_length h.2
    have h1 := nextP_le h.2
    have h2 := h.1
    have e : nextP raw.length (f :: r) = f.place := rfl
    rw [e]
    simp only [laid, headSum, List.length_append, List.length_take, List.length_drop]
    omega

/-- The bytes while heads are laid: of the frames 'todo ++ done', done's are. -/
structure Buf (raw : List UInt8) (todo don : List Fr) (b : List UInt8) (frm to : Nat) : Prop where
  len : b.length = raw.length + headSum (todo ++ don)
  fr : frm = nextP raw.length don
  to_ : to = frm + headSum todo
  head : b.take frm = raw.take frm
  tail : b.drop to = laid raw don
theorem Buf.start (raw : List UInt8) (fs : List Fr) (z : List UInt8) (hz : z.length = headSum fs) : Buf raw fs [] (raw ++ z) raw.length (raw.length + headSum fs) :=
  ⟨by simp [hz], rfl, rfl, by simp, by rw [List.drop_eq_nil_of_le (by simp [hz])]; rfl⟩
theorem Buf.stop {raw : List UInt8} {fs : List Fr} {b : List UInt8} {frm to : Nat} (h : Buf raw [] fs b frm to) : b = raw.take (nextP raw.length fs) ++ laid raw fs := by
  obtain ⟨h1, h2, h3, h4, h5⟩ := h
  simp [headSum] at h3
  subst h3
  rw [← h5, ← h2, ← h4, List.take_append_drop]

theorem splice_take {α : Type} (L : List α) (off : Nat) (cs : List α) (n : Nat) (h : n ≤ off) (ho : off ≤ L.length) : (splice L off cs).take n = L.take n := by
  unfold splice
  rw [List.take_append_of_le_length (by rw [List.length_take]; omega), List.take_take, Nat.min_eq_left h]
theorem splice_drop {α : Type} (L : List α) (off : Nat) (cs : List α) (ho : off ≤ L.length) : (splice L off cs).drop off = cs ++ L.drop (off + cs.length) := by
  unfold splice
  have hl : (L.take off).length = off := by rw [List.length_take]; omega
  have h1 := List.drop_left (l₁ := L.take off) (l₂ := cs ++ L.drop (off + cs.length))
  rwa [hl] at h1

/-- One round: the frame f is the last that is to be done. -/
theorem Buf.step {raw : List UInt8} {todo don : List Fr} {f : Fr} {b : List UInt8} {frm to : Nat} (h : Buf raw (todo ++ [f]) don b frm to) (hasc : Asc raw.length (f :: don)) :
    f.place ≤ frm ∧ frm ≤ raw.length ∧ to ≤ b.length ∧ f.place + f.head.length + (frm - f.place) ≤ to ∧
    (b.take frm).drop f.place = (raw.drop f.place).take (frm - f.place) ∧
    Buf raw todo (f :: don) (splice (splice b (to - (frm - f.place)) ((b.take frm).drop f.place)) (to - (frm - f.place) - f.head.length) f.head) f.place (to - (frm - f.place) - f.head.length) := by
  obtain ⟨h1, h2, h3, h4, h5⟩ := h
  have hp : f.place ≤ frm := by rw [h2]; exact hasc.1
  have hle : frm ≤ raw.length := by rw [h2]; exact nextP_le hasc.2
  rw [headSum_append] at h3
  simp only [headSum, Nat.add_zero] at h3
  rw [headSum_append, headSum_append] at h1
  simp only [headSum, Nat.add_zero] at h1
  have hseg : (b.take frm).drop f.place = (raw.drop f.place).take (frm - f.place) := by rw [h4, List.drop_take]
  have hsl : ((b.take frm).drop f.place).length = frm - f.place := by rw [List.length_drop, List.length_take]; omega
  refine ⟨hp, hle, by omega, by omega, hseg, ?_⟩
  obtain ⟨sg, hsg⟩ : ∃ sg, sg = (b.take frm).drop f.place := ⟨_, rfl⟩
  rw [← hsg] at hsl hseg ⊢
  have l1 : (splice b (to - (frm - f.place)) sg).length = b.length := length_splice _ _ _ (by omega)
  have l2 : (splice (splice b (to - (frm - f.place)) sg) (to - (frm - f.place) - f.head.length) f.head).length = b.length := by rw [length_splice _ _ _ (by omega), l1]
  refine ⟨?_, rfl, by omega, ?_, ?_⟩
  · rw [l2, headSum_append]
    simp only [headSum]
    omega
  · rw [splice_take _ _ _ _ (by omega) (by omega), splice_take _ _ _ _ (by omega) (by omega)]
    have := congrArg (List.take f.place) h4
    rwa [List.take_take, List.take_take, Nat.min_eq_left hp] at this
  · rw [splice_drop _ _ _ (by omega), show to - (frm - f.place) - f.head.length + f.head.length = to - (frm - f.place) by omega, splice_drop _ _ _ (by omega), hsl, show to - (frm - f.place) + (frm - f.place) = to by omega, h5, hseg, laid, ← h2]
end Go.Proofs.Ytalbiieagcandaa
