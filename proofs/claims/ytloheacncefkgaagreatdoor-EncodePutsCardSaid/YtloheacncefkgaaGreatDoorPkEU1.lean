/- Several texts in one: EmMath, EmRel, FixMath, ZigMath. What each proves, and its conditions, stands at its own head. -/
import Derived.Laws.CopyOwn
import Derived.Lib.BitFns
import Derived.Laws.BitsLemmas
import Derived.Lib.EndianBits
import Derived.RowKit
/- Plain words for a writer (no program here): what its bytes and its frames are, and what laying the frames' heads makes of the bytes. -/
namespace Go.Proofs.YtloheacncefkgaaGreatDoor
set_option linter.unusedVariables false

structure Fr where
 tag : Nat
 place : Nat
 before : Nat
 head : List UInt8
structure Ws where
 raw : List UInt8
 fs : List Fr
 op : List Nat
 room : Nat

def nextP (n : Nat) : List Fr → Nat
 | [] => n
 | f :: _ => f.place
/-- The bytes from the first of these frames on. -/
def laid (raw : List UInt8) : List Fr → List UInt8
 | [] => []
 | f :: r => f.head ++ ((raw.drop f.place).take (nextP raw.length r - f.place) ++ laid raw r)
def headSum : List Fr → Nat
 | [] => 0
 | f :: r => f.head.length + headSum r
/-- Places rise, up to n. -/
def Asc (n : Nat) : List Fr → Prop
 | [] => True
 | f :: r => f.place ≤ nextP n r ∧ Asc n r
def Ws.lay (s : Ws) : Ws := ⟨s.raw.take (nextP s.raw.length s.fs) ++ laid s.raw s.fs, [], s.op, 0⟩

theorem headSum_append (a b : List Fr) : headSum (a ++ b) = headSum a + headSum b := by
 induction a with
 | nil => simp [headSum]
 | cons f a ih => simp [headSum, ih]; omega
theorem nextP_le {n : Nat} : ∀ {fs : List Fr}, Asc n fs → nextP n fs ≤ n
 | [], _ => Nat.le_refl _
 | f :: r, h => Nat.le_trans h.1 (nextP_le h.2)
theorem Asc.drop {n : Nat} : ∀ {fs : List Fr} (k : Nat), Asc n fs → Asc n (fs.drop k)
 | [], k, _ => by simp [Asc]
 | f :: r, 0, h => h
 | f :: r, k + 1, h => by rw [List.drop_succ_cons]; exact Asc.drop k h.2
theorem laid_length {raw : List UInt8} : ∀ {fs : List Fr}, Asc raw.length fs → (laid raw fs).length + nextP raw.length fs = raw.length + headSum fs
 | [], _ => by simp [laid, nextP, headSum]
 | f :: r, h => by
   have ih := laid_length h.2
   have h1 := nextP_le h.2
   have h2 := h.1
   have e : nextP raw.length (f :: r) = f.place := rfl
   rw [e]
   simp only [laid, headSum, List.length_append, List.length_take, List.length_drop]
   omega

/-- The bytes while heads are laid: of the frames 'todo ++ done', done's are. -/
structure Buf (raw : List UInt8) (todo don : List Fr) (b : List UInt8) (frm tu : Nat) : Prop where
 len : b.length = raw.length + headSum (todo ++ don)
 fr : frm = nextP raw.length don
 to_ : tu = frm + headSum todo
 head : b.take frm = raw.take frm
 tail : b.drop tu = laid raw don
theorem Buf.start (raw : List UInt8) (fs : List Fr) (z : List UInt8) (hz : z.length = headSum fs) : Buf raw fs [] (raw ++ z) raw.length (raw.length + headSum fs) :=
 ⟨by simp [hz], rfl, rfl, by simp, by rw [List.drop_eq_nil_of_le (by simp [hz])]; rfl⟩
theorem Buf.stop {raw : List UInt8} {fs : List Fr} {b : List UInt8} {frm tu : Nat} (h : Buf raw [] fs b frm tu) : b = raw.take (nextP raw.length fs) ++ laid raw fs := by
 obtain ⟨h1, h2, h3, h4, h5⟩ := h
 simp [headSum] at h3
 subst h3
 rw [← h5, ← h2, ← h4, List.take_append_drop]

theorem splice_take {α : Type} (L : List α) (off : Nat) (cs : List α) (n : Nat) (h : n ≤ off) (ho : off ≤ L.length) : (splice L off cs).take n = L.take n := by
 unfold splice
 rw [List.take_append_of_le_length (by rw [List.length_take]; omega), List.take_take, Nat.min_eq_left h]
theorem splice_drop {α : Type} (L : List α) (off : Nat) (cs : List α) (ho : off ≤ L.length) : (splice L off cs).drop off = cs ++ L.drop (off + cs.length) := by
 unfold splice
 have hl : (L.take off).length = off := by rw [List.length_take]; omega
 have h1 := List.drop_left (l₁ := L.take off) (l₂ := cs ++ L.drop (off + cs.length))
 rwa [hl] at h1

/-- One round: the frame f is the last that is to be done. -/
theorem Buf.step {raw : List UInt8} {todo don : List Fr} {f : Fr} {b : List UInt8} {frm tu : Nat} (h : Buf raw (todo ++ [f]) don b frm tu) (hasc : Asc raw.length (f :: don)) :
 f.place ≤ frm ∧ frm ≤ raw.length ∧ tu ≤ b.length ∧ f.place + f.head.length + (frm - f.place) ≤ tu ∧
 (b.take frm).drop f.place = (raw.drop f.place).take (frm - f.place) ∧
 Buf raw todo (f :: don) (splice (splice b (tu - (frm - f.place)) ((b.take frm).drop f.place)) (tu - (frm - f.place) - f.head.length) f.head) f.place (tu - (frm - f.place) - f.head.length) := by
 obtain ⟨h1, h2, h3, h4, h5⟩ := h
 have hp : f.place ≤ frm := by rw [h2]; exact hasc.1
 have hle : frm ≤ raw.length := by rw [h2]; exact nextP_le hasc.2
 rw [headSum_append] at h3
 simp only [headSum, Nat.add_zero] at h3
 rw [headSum_append, headSum_append] at h1
 simp only [headSum, Nat.add_zero] at h1
 have hseg : (b.take frm).drop f.place = (raw.drop f.place).take (frm - f.place) := by rw [h4, List.drop_take]
 have hsl : ((b.take frm).drop f.place).length = frm - f.place := by rw [List.length_drop, List.length_take]; omega
 refine ⟨hp, hle, by omega, by omega, hseg, ?_⟩
 obtain ⟨sg, hsg⟩ : ∃ sg, sg = (b.take frm).drop f.place := ⟨_, rfl⟩
 rw [← hsg] at hsl hseg ⊢
 have l1 : (splice b (tu - (frm - f.place)) sg).length = b.length := length_splice _ _ _ (by omega)
 have l2 : (splice (splice b (tu - (frm - f.place)) sg) (tu - (frm - f.place) - f.head.length) f.head).length = b.length := by rw [length_splice _ _ _ (by omega), l1]
 refine ⟨?_, rfl, by omega, ?_, ?_⟩
 ·rw [l2, headSum_append]
  simp only [headSum]
  omega
 ·rw [splice_take _ _ _ _ (by omega) (by omega), splice_take _ _ _ _ (by omega) (by omega)]
  have := congrArg (List.take f.place) h4
  rwa [List.take_take, List.take_take, Nat.min_eq_left hp] at this
 ·rw [splice_drop _ _ _ (by omega), show tu - (frm - f.place) - f.head.length + f.head.length = tu - (frm - f.place) by omega, splice_drop _ _ _ (by omega), hsl, show tu - (frm - f.place) + (frm - f.place) = tu by omega, h5, hseg, laid, ← h2]
end Go.Proofs.YtloheacncefkgaaGreatDoor

/- Plain words (no program here): how the writer's frames and the document's parts say the same. -/
namespace Go.Proofs.YtloheacncefkgaaGreatDoor
set_option linter.unusedVariables false

/-- What each of these frames lays: its head, and the bytes up to the next. -/
def pieces (raw : List UInt8) : List Fr → List (List UInt8)
 | [] => []
 | f :: r => (f.head ++ (raw.drop f.place).take (nextP raw.length r - f.place)) :: pieces raw r
def alls (raw : List UInt8) (fs : List Fr) : List (List UInt8) := raw.take (nextP raw.length fs) :: pieces raw fs
theorem laid_pieces (raw : List UInt8) : ∀ fs : List Fr, laid raw fs = (pieces raw fs).flatten
 | [] => rfl
 | f :: r => by rw [laid, pieces, List.flatten_cons, laid_pieces raw r, List.append_assoc]
theorem alls_flat (raw : List UInt8) (fs : List Fr) : (alls raw fs).flatten = raw.take (nextP raw.length fs) ++ laid raw fs := by
 rw [alls, List.flatten_cons, laid_pieces]
theorem pieces_length (raw : List UInt8) : ∀ fs : List Fr, (pieces raw fs).length = fs.length
 | [] => rfl
 | f :: r => by rw [pieces, List.length_cons, List.length_cons, pieces_length raw r]
theorem alls_length (raw : List UInt8) (fs : List Fr) : (alls raw fs).length = fs.length + 1 := by rw [alls, List.length_cons, pieces_length]
theorem alls_total {raw : List UInt8} {fs : List Fr} (h : Asc raw.length fs) : (alls raw fs).flatten.length = raw.length + headSum fs := by
 have h1 := laid_length h
 have h2 := nextP_le h
 rw [alls_flat, List.length_append, List.length_take]
 omega
/-- Bytes behind: the last piece grows. -/
theorem pieces_more {raw : List UInt8} (b : List UInt8) : ∀ {f : Fr} {r : List Fr}, Asc raw.length (f :: r) → ∃ i l, pieces raw (f :: r) = i ++ [l] ∧ pieces (raw ++ b) (f :: r) = i ++ [l ++ b]
 | f, [], h => by
   have h1 : f.place ≤ raw.length := h.1
   refine ⟨[], f.head ++ (raw.drop f.place).take (raw.length - f.place), by simp [pieces, nextP], ?_⟩
   simp only [pieces, nextP, List.nil_append, List.append_assoc, List.length_append]
   rw [List.drop_append_of_le_length h1, List.take_of_length_le (l := raw.drop f.place ++ b) (by simp; omega), List.take_of_length_le (l := raw.drop f.place) (by simp)]
 | f, g :: r, h => by
   obtain ⟨i, l, e1, e2⟩ := pieces_more b h.2
   have h1 : f.place ≤ g.place := h.1
   have h2 : g.place ≤ raw.length := nextP_le h.2
   refine ⟨(f.head ++ (raw.drop f.place).take (g.place - f.place)) :: i, l, by rw [pieces, e1]; rfl, ?_⟩
   rw [pieces, e2]
   simp only [nextP]
   rw [List.drop_append_of_le_length (by omega), List.take_append_of_le_length (by simp; omega)]
   rfl
theorem asc_more {n : Nat} (k : Nat) : ∀ {fs : List Fr}, Asc n fs → Asc (n + k) fs
 | [], _ => trivial
 | f :: r, h => ⟨by
     have h1 := h.1
     cases r with
     | nil => exact Nat.le_trans h1 (Nat.le_add_right _ _)
     | cons g r => exact h1, asc_more k h.2⟩
theorem alls_more {raw : List UInt8} {fs : List Fr} (b : List UInt8) (h : Asc raw.length fs) : ∃ i l, alls raw fs = i ++ [l] ∧ alls (raw ++ b) fs = i ++ [l ++ b] := by
 cases fs with
 | nil => exact ⟨[], raw, by simp [alls, nextP, pieces], by simp [alls, nextP, pieces]; exact List.take_of_length_le (by simp)⟩
 | cons f r =>
   obtain ⟨i, l, e1, e2⟩ := pieces_more b h
   have h1 : f.place ≤ raw.length := nextP_le h
   refine ⟨raw.take f.place :: i, l, by rw [alls, e1]; rfl, ?_⟩
   rw [alls, e2]
   simp only [nextP]
   rw [List.take_append_of_le_length h1]
   rfl
/-- A frame more, of nothing. -/
theorem nextP_snoc (n : Nat) (f : Fr) (hf : f.place = n) : ∀ fs : List Fr, nextP n (fs ++ [f]) = nextP n fs
 | [] => hf
 | g :: r => rfl
theorem pieces_snoc {raw : List UInt8} {f : Fr} (hf : f.place = raw.length) (hh : f.head = []) : ∀ fs : List Fr, pieces raw (fs ++ [f]) = pieces raw fs ++ [[]]
 | [] => by simp [pieces, nextP, hf, hh]
 | g :: r => by rw [List.cons_append, pieces, pieces_snoc hf hh r, nextP_snoc _ f hf, pieces]; rfl
theorem alls_snoc {raw : List UInt8} {f : Fr} (hf : f.place = raw.length) (hh : f.head = []) (fs : List Fr) : alls raw (fs ++ [f]) = alls raw fs ++ [[]] := by
 rw [alls, pieces_snoc hf hh, nextP_snoc _ f hf, alls]; rfl
theorem asc_snoc {n : Nat} {f : Fr} (hf : f.place = n) : ∀ {fs : List Fr}, Asc n fs → Asc n (fs ++ [f])
 | [], _ => ⟨Nat.le_of_eq hf, trivial⟩
 | g :: r, h => ⟨by show g.place ≤ nextP n (r ++ [f]); rw [nextP_snoc _ f hf]; exact h.1, asc_snoc hf h.2⟩
/-- A frame's head is there. -/
theorem nextP_set (n : Nat) {g : Fr} : ∀ (fs : List Fr) (o : Nat) {f : Fr}, fs[o]? = some f → g.place = f.place → nextP n (fs.set o g) = nextP n fs
 | [], _, _, h, _ => by simp at h
 | a :: r, 0, f, h, hg => by simp at h; subst h; exact hg
 | a :: r, o + 1, f, h, hg => rfl
theorem asc_set {n : Nat} {g : Fr} : ∀ {fs : List Fr} (o : Nat) {f : Fr}, fs[o]? = some f → g.place = f.place → Asc n fs → Asc n (fs.set o g)
 | [], _, _, h, _, _ => by simp at h
 | a :: r, 0, f, h, hg, ha => by simp at h; subst h; exact ⟨by show g.place ≤ _; rw [hg]; exact ha.1, ha.2⟩
 | a :: r, o + 1, f, h, hg, ha => ⟨by show a.place ≤ nextP n (r.set o g); rw [nextP_set n r o (by simpa using h) hg]; exact ha.1, asc_set o (by simpa using h) hg ha.2⟩
theorem headSum_set {g : Fr} : ∀ (fs : List Fr) (o : Nat) {f : Fr}, fs[o]? = some f → f.head = [] → headSum (fs.set o g) = headSum fs + g.head.length
 | [], _, _, h, _ => by simp at h
 | a :: r, 0, f, h, hf => by simp at h; subst h; simp [headSum, hf]; omega
 | a :: r, o + 1, f, h, hf => by
   have := headSum_set (g := g) r o (by simpa using h) hf
   simp only [List.set_cons_succ, headSum, this]; omega
theorem pieces_set (raw : List UInt8) {g : Fr} : ∀ (fs : List Fr) (o : Nat) {f : Fr}, fs[o]? = some f → f.head = [] → g.place = f.place →
 ∃ a x b, pieces raw fs = a ++ x :: b ∧ a.length = o ∧ pieces raw (fs.set o g) = a ++ (g.head ++ x) :: b
 | [], _, _, h, _, _ => by simp at h
 | c :: r, 0, f, h, hf, hg => by
   simp at h
   subst h
   refine ⟨[], _, pieces raw r, rfl, rfl, ?_⟩
   simp [pieces, hf, hg]
 | c :: r, o + 1, f, h, hf, hg => by
   obtain ⟨a, x, b, e1, e2, e3⟩ := pieces_set raw r o (by simpa using h) hf hg
   refine ⟨(c.head ++ (raw.drop c.place).take (nextP raw.length r - c.place)) :: a, x, b, by rw [pieces, e1]; rfl, by simp [e2], ?_⟩
   rw [List.set_cons_succ, pieces, e3, nextP_set _ r o (by simpa using h) hg]
   rfl
theorem alls_set {raw : List UInt8} {fs : List Fr} {o : Nat} {f g : Fr} (h : fs[o]? = some f) (hf : f.head = []) (hg : g.place = f.place) :
 ∃ a x b, alls raw fs = a ++ x :: b ∧ a.length = o + 1 ∧ alls raw (fs.set o g) = a ++ (g.head ++ x) :: b := by
 obtain ⟨a, x, b, e1, e2, e3⟩ := pieces_set raw fs o h hf hg
 exact ⟨raw.take (nextP raw.length fs) :: a, x, b, by rw [alls, e1]; rfl, by simp [e2], by rw [alls, e3, nextP_set _ fs o h hg]; rfl⟩
end Go.Proofs.YtloheacncefkgaaGreatDoor

/- Plain arithmetic of numbers as bytes, the lowest one first (no program here). Conditions: none but those that each theorem names. -/
namespace Go.Proofs.YtloheacncefkgaaGreatDoor
open Go.RowKit Go.Lib
set_option linter.unusedVariables false

/-- So many bytes of a number. -/
def le : Nat → Nat → List UInt8
 | 0, _ => []
 | k + 1, n => (n % 256).toUInt8 :: le k (n / 256)
/-- The number of bytes. -/
def num : List UInt8 → Nat
 | [] => 0
 | b :: bs => b.toNat + 256 * num bs

theorem le_length : ∀ k n, (le k n).length = k
 | 0, _ => rfl
 | k + 1, n => by simp [le, le_length k]
theorem pow256 (k : Nat) : 256 ^ (k + 1) = 256 ^ k * 256 := Nat.pow_succ ..
theorem le_add : ∀ j k n, le (j + k) n = le j n ++ le k (n / 256 ^ j)
 | 0, k, n => by simp [le]
 | j + 1, k, n => by
   rw [show j + 1 + k = (j + k) + 1 by omega]
   simp only [le, List.cons_append]
   rw [le_add j k (n / 256), Nat.div_div_eq_div_mul, pow256, Nat.mul_comm 256]
theorem le_snoc (k n : Nat) : le (k + 1) n = le k n ++ [(n / 256 ^ k % 256).toUInt8] := by
 rw [le_add k 1 n]; rfl
theorem num_le : ∀ k n, num (le k n) = n % 256 ^ k
 | 0, n => by simp [le, num, Nat.mod_one]
 | k + 1, n => by
   rw [le, num, num_le k, pow256, Nat.mul_comm (256 ^ k), Nat.mod_mul]
   have : (n % 256).toUInt8.toNat = n % 256 := by simp [Nat.toUInt8]
   omega
/-- What is got of whatever bytes. -/
def getN (k : Nat) (bs : List UInt8) : Nat := if bs.length < k then 0 else num (bs.take k)
def isN (k : Nat) (bs : List UInt8) : Bool := decide (k ≤ bs.length)
theorem getN_put (k n : Nat) (rest : List UInt8) : getN k (le k n ++ rest) = n % 256 ^ k := by
 have hl := le_length k n
 unfold getN
 rw [if_neg (by simp [hl])]
 rw [List.take_append_of_le_length (by omega), List.take_of_length_le (by omega), num_le]
theorem isN_put (k n : Nat) (rest : List UInt8) : isN k (le k n ++ rest) = true := by
 simp [isN, le_length]
end Go.Proofs.YtloheacncefkgaaGreatDoor

/- Plain arithmetic of signed numbers as unsigned ones (no program here). Conditions: none but those that each theorem names. -/
namespace Go.Proofs.YtloheacncefkgaaGreatDoor
open Go.RowKit Go.Lib

theorem ofInt64 (n : Nat) (h : n < 18446744073709551616) : (BitVec.ofInt 64 (n : Int)).toNat = n := by
 rw [BitVec.ofInt_natCast, BitVec.toNat_ofNat]; exact Nat.mod_eq_of_lt h
theorem xor_nat (a b : Nat) (ha : a < 18446744073709551616) (hb : b < 18446744073709551616) : bits .xor .u64 (a : Int) (b : Int) = ((a ^^^ b : Nat) : Int) := by
 have h := Nat.xor_lt_two_pow (n := 64) ha hb
 show IntKind.u64.wrap (((BitVec.ofInt 64 (a : Int)) ^^^ (BitVec.ofInt 64 (b : Int))).toNat : Int) = _
 rw [BitVec.toNat_xor, ofInt64 a ha, ofInt64 b hb, IntKind.wrap_u64]
 omega
theorem xor_zero (a : Nat) (ha : a < 18446744073709551616) : bits .xor .u64 (a : Int) 0 = (a : Int) := by
 have h := xor_nat a 0 ha (by decide)
 simpa using h
theorem xor_ones (a : Nat) (ha : a < 18446744073709551616) : bits .xor .u64 (a : Int) 18446744073709551615 = 18446744073709551615 - (a : Int) := by
 have h := xor_nat a 18446744073709551615 ha (by decide)
 have e : a ^^^ 18446744073709551615 = 18446744073709551615 - a := by
  have h1 := congrArg BitVec.toNat (BitVec.xor_allOnes (x := BitVec.ofNat 64 a))
  rw [BitVec.toNat_xor, BitVec.toNat_not, BitVec.toNat_allOnes, BitVec.toNat_ofNat, Nat.mod_eq_of_lt (show a < 2 ^ 64 from ha)] at h1
  exact h1
 rw [e] at h
 have e2 : ((18446744073709551615 - a : Nat) : Int) = 18446744073709551615 - (a : Int) := by omega
 rw [← e2, ← h]; rfl
/-- What the shifts make of a number's bits, there and back. -/
def outN (n : Nat) : Nat := if n < 9223372036854775808 then 2 * n else 36893488147419103231 - 2 * n
def zigN (a : Int) : Nat := if 0 ≤ a then (2 * a).toNat else (-2 * a - 1).toNat
def wideI (n : Nat) : Int := if n % 4294967296 < 2147483648 then ((n % 4294967296 : Nat) : Int) else ((n % 4294967296 : Nat) : Int) - 4294967296
def fitsB (a : Int) : Bool := decide (-2147483648 ≤ a ∧ a ≤ 2147483647)

theorem out_bits (n : Nat) (h : n < 18446744073709551616) : bits .xor .u64 (IntKind.u64.wrap ((n : Int) * 2)) (IntKind.u64.wrap (-((n : Int) / 9223372036854775808))) = (outN n : Int) := by
 by_cases h1 : n < 9223372036854775808
 ·have e1 : IntKind.u64.wrap ((n : Int) * 2) = ((2 * n : Nat) : Int) := by rw [IntKind.wrap_u64]; omega
  have e2 : IntKind.u64.wrap (-((n : Int) / 9223372036854775808)) = 0 := by rw [IntKind.wrap_u64]; omega
  rw [e1, e2, xor_zero _ (by omega)]
  simp [outN, h1]
 ·have e1 : IntKind.u64.wrap ((n : Int) * 2) = ((2 * n - 18446744073709551616 : Nat) : Int) := by rw [IntKind.wrap_u64]; omega
  have e2 : IntKind.u64.wrap (-((n : Int) / 9223372036854775808)) = 18446744073709551615 := by rw [IntKind.wrap_u64]; omega
  rw [e1, e2, xor_ones _ (by omega)]
  simp only [outN, h1, if_false]; omega
theorem outN_lt (n : Nat) (h : n < 18446744073709551616) : outN n < 18446744073709551616 := by unfold outN; split <;> omega
theorem zig_out (a : Int) (h0 : -9223372036854775808 ≤ a) (h : a < 9223372036854775808) : outN (IntKind.u64.wrap a).toNat = zigN a := by
 rw [IntKind.wrap_u64]; unfold outN zigN; split <;> split <;> omega
theorem u64_nat (a : Int) : IntKind.u64.wrap a = ((IntKind.u64.wrap a).toNat : Int) ∧ (IntKind.u64.wrap a).toNat < 18446744073709551616 := by
 rw [IntKind.wrap_u64]; omega
theorem wide_wraps (n : Nat) : wrap64 (wrap32 (n : Int)) = wideI n := by
 unfold wrap64 wrap32 wideI; split <;> omega
theorem wide_low (a : Int) (h0 : -9223372036854775808 ≤ a) (h : a < 9223372036854775808) : (wideI (a % 4294967296).toNat == a) = fitsB a := by
 rw [Bool.eq_iff_iff]
 unfold wideI fitsB
 simp only [beq_iff_eq, decide_eq_true_eq]
 split <;> omega
end Go.Proofs.YtloheacncefkgaaGreatDoor
