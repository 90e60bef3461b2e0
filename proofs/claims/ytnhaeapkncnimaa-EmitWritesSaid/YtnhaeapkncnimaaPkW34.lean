/- Several texts in one: RemC, EmLike, EmShut, RemD, RemE, RemF, RemG, RemH, EmPair, EmLight. What each proves, and its conditions, stands at its own head. -/
import Derived.Test.YtnhaeapkncnimaaPkW19
import Derived.Test.YtnhaeapkncnimaaPkW30
import Derived.Test.YtnhaeapkncnimaaPkW27
import Derived.Deep.CutRange
import Derived.Deep.RegionLaw
import Derived.Deep.RegionHeld3
import Derived.Test.YtnhaeapkncnimaaPkW5
import Derived.Test.YtnhaeapkncnimaaPkW33
import Derived.Test.YtnhaeapkncnimaaPkW2
/- The document's writer: New, Plain, Field, Open, Close, Len. Conditions: those that each theorem names. -/
namespace Go.Proofs.Ytnhaeapkncnimaa
open Go.RowKit
open Go.Lib (uvarint)
set_option linter.unusedVariables false
set_option maxRecDepth 100000

section
variable {B p : Nat} {S : Nat → Prop} {s : Rs} {vp vn : Value} {vs : List Value} {w w2 : World}
/-- Another part in a part's place. -/
theorem rf_set (h : RfAt B w p S s vp vn vs) (hb : Below w.heap.size w w2) {g k : Nat} (hg : vp.ownBlock = some g) (hk : k < s.parts.length) {A : Option Addr} {n cap : Nat} {bs : List UInt8} (hB : Bs w2 A cap bs) (hn : n = bs.length) (hA : ∀ a, A = some a → w.heap.size ≤ a.block ∧ a.block < w2.heap.size) :
    ∃ S', RfAt B (w2.setCell ⟨g, k, none⟩ (.slice A n cap)) p S' ⟨s.parts.set k bs, s.nums⟩ vp vn (vs.set k (.slice A n cap)) ∧ (∀ i, S' i → S i ∨ w.heap.size ≤ i) ∧ Touch S w (w2.setCell ⟨g, k, none⟩ (.slice A n cap)) := by
  subst hn
  have h2 : RfAt B w2 p S s vp vn vs := h.keep (fun i hi => hb.block i (h.lt i hi).2) hb.size
  have hlt := fun i hi => (h.lt i hi).2
  have hvl : vs.length = s.parts.length := by have := h.row.1; omega
  have hne : ∀ i, i ≠ g → (w2.setCell ⟨g, k, none⟩ (.slice A bs.length cap)).heap[i]? = w2.heap[i]? := fun i hi => heap_setCell_other w2 ⟨g, k, none⟩ i _ hi
  have hpg : p ≠ g := fun e => own_other h.row h.obj (by decide) (e ▸ hg)
  have hsz : (w2.setCell ⟨g, k, none⟩ (.slice A bs.length cap)).heap.size = w2.heap.size := by simp [World.setCell]
  refine ⟨Since S w (w2.setCell ⟨g, k, none⟩ (.slice A bs.length cap)), ⟨(hne p hpg).trans h2.obj, by rw [List.length_set]; exact own_set h2.row hg (by omega) _, own_block h2.nums (fun i e => hne i (fun e' => own_own h.nums h.row (by decide) hg (e' ▸ e))), fun j v b hv hb' => ?_, .inl h.sp, fun i e => .inl (h.sv i e), fun i e => .inl (h.sn i e), fun i hi => ?_⟩, since_of, (Touch.of_below S hb).set (q := ⟨g, k, none⟩) (.inl (h.sv g hg)) _⟩
  · rw [List.getElem?_set] at hv hb'
    split at hv
    · rename_i e
      subst e
      rw [if_pos rfl, if_pos hk] at hb'
      rw [if_pos (by omega)] at hv
      cases hv
      cases hb'
      refine ⟨A, cap, rfl, Bs.heap hB (fun a ha => hne _ (fun e => by have := (hA a ha).1; have := hlt g (h.sv g hg); omega)), fun a ha => ⟨.inr ⟨(hA a ha).1, by rw [hsz]; exact (hA a ha).2⟩, fun e => ?_, fun e => ?_, fun e => ?_⟩⟩
      · have := (hA a ha).1; have := hlt p h.sp; omega
      · have := (hA a ha).1; have := hlt _ (h.sv _ e); omega
      · have := (hA a ha).1; have := hlt _ (h.sn _ e); omega
    · rename_i e
      rw [if_neg e] at hb'
      obtain ⟨A', c', e1, hB', ha'⟩ := h2.part j v b hv hb'
      exact ⟨A', c', e1, Bs.heap hB' (fun a ha => hne _ (fun e2 => (ha' a ha).2.2.1 (e2 ▸ hg))), fun a ha => ⟨.inl (ha' a ha).1, (ha' a ha).2⟩⟩
  · rcases hi with hi | hi
    · exact ⟨(h.lt i hi).1, by rw [hsz]; have := (h.lt i hi).2; have := hb.size; omega⟩
    · exact ⟨by have := h.lt p h.sp; omega, hi.2⟩
end

def Rs.plain (s : Rs) (init : List (List UInt8)) (last b : List UInt8) : Rs := ⟨init ++ [last ++ b], s.nums⟩
def RFrom (B : Nat) (w : World) (p : Nat) (S : Nat → Prop) (s : Rs) (wx : World) : Prop := ∃ S', Rf B wx p S' s ∧ (∀ k, S' k → S k ∨ w.heap.size ≤ k) ∧ Touch S w wx
/-- What a call that answers nothing leaves. -/
def RfDone (B : Nat) (w : World) (p : Nat) (S : Nat → Prop) (s : Rs) (e : Ending) (w' : World) : Prop := (∃ v, e = .returned v) ∧ RFrom B w p S s w'

set_option maxHeartbeats 2000000 in
theorem rplain_any {B p : Nat} {S : Nat → Prop} {s : Rs} {w : World} (h : Rf B w p S s) {init : List (List UInt8)} {last b : List UInt8} (hp : s.parts = init ++ [last]) {Ab : Option Addr} {nb cb : Nat} (hb : Bs w Ab cb b) (hn : nb = b.length) (h47 : last.length + b.length ≤ 140737488355328) (hil : init.length ≤ 1099511627776) :
    Calls Try.prog 31 #[.pointer (some ⟨p, 0, none⟩), .slice Ab nb cb] w (RfDone B w p S (s.plain init last b)) := by
  obtain ⟨i0, hi, hz0, hz1, hz2⟩ := info_parts info_u8
  obtain ⟨vp, vn, vs, hat⟩ := h
  have hpl : s.parts.length = init.length + 1 := by rw [hp]; simp
  obtain ⟨g, cp, hvp, x1, x2, x3, x4⟩ := own_pos hat.row (by omega)
  subst hvp
  obtain ⟨k, hk⟩ : ∃ k, k = init.length := ⟨_, rfl⟩
  obtain ⟨v, hv⟩ : ∃ v, vs[k]? = some v := ⟨_, List.getElem?_eq_getElem (by have := hat.row.1; omega)⟩
  obtain ⟨Al, cl, hve, hbl, hal⟩ := hat.part k v last hv (by rw [hp, List.getElem?_append_right (by omega), hk, Nat.sub_self]; rfl)
  subst hve
  have c0 := obj_cell hat.obj 0
  have q1 : w.cell? ⟨g, k, none⟩ = some (.slice Al last.length cl) := own_cell hat.row (g := g) rfl hv
  have q2 : w.frozen? ⟨g, k, none⟩ = false := own_free hat.row (g := g) rfl k
  rw [hpl, ← hk] at c0 x2
  unfold maxLen at x3
  obtain ⟨L, hL⟩ : ∃ L, L = last.length := ⟨_, rfl⟩
  rw [← hL] at q1
  rw [← hk] at hil
  have hpb : p < w.heap.size := (hat.lt p hat.sp).2
  have HAT := Lib.hid hat
  have HP := Lib.hid hp
  have HK := Lib.hid hk
  have HL := Lib.hid hL
  have HBL := Lib.hid hbl
  have HB := Lib.hid hb
  have HN := Lib.hid hn
  have HPL := Lib.hid hpl
  clear hat hp hk hL hbl hal hb hn hpl hv
  have HCC : Hid (∀ w', Below w.heap.size w w' → w'.cell? ⟨p, 0, none⟩ = some (.slice (some ⟨g, 0, none⟩) (k + 1) cp) ∧ w'.cell? ⟨g, k, none⟩ = some (.slice Al L cl) ∧ w'.frozen? ⟨g, k, none⟩ = false) :=
    fun w' hb' => ⟨(hb'.cell (p := ⟨p, 0, none⟩) hpb).trans c0, (hb'.cell (p := ⟨g, k, none⟩) x4).trans q1, (hb'.frozen (p := ⟨g, k, none⟩) x4).trans q2⟩
  go_enter Try.func31, Try.ntmps31
  go_wp2
  have b0 : Below w.heap.size w w := Below.refl _ _
  have hkk : (k : Int) < (k : Int) + 1 := by omega
  have r := (HCC.out _ b0).1
  have TOK := Lib.hid hil
  obtain ⟨M, hM⟩ : ∃ M, M = last.length + b.length := ⟨_, rfl⟩
  have HM := Lib.hid hM
  clear hM
  go_region_law
    (first
    | (refine step_append_bs (by rfl) _ _ (by rfl) (base := w.heap.size) (pre := []) (by rfl) (by have tok := TOK.out; exact own0 w.drew) (by rfl) ((HBL.out.drew).alloc _) HL.out (by simp; omega) (by simp) ?_; clear TOK; intro v1 w1 ho1 hg1; have hbA1 : Below w.heap.size w w1 := (b0.drew.alloc (Nat.le_refl _) _).grown hg1 (by simp) (fun j e => by cases e; exact Nat.le_refl _); have r1 := (HCC.out _ hbA1).1; have HO1 := Lib.hid ho1; clear ho1 hg1)
    | (refine step_append_bs (by rfl) _ _ (by rfl) (base := w.heap.size) (pre := [] ++ last) (by rfl) HO1.out (by rfl) (HB.out.below hbA1 (Nat.le_refl _)) HN.out (by simp; omega) hbA1.size ?_; intro v2 w2 ho2 hg2; have hbA2 : Below w.heap.size w w2 := hbA1.grown hg2 hbA1.size (fun j e => (HO1.out.lt j e).1); obtain ⟨A2, cap2, hv2, _, _, _, _⟩ := own_form ho2; subst hv2; have r4 := (HCC.out _ hbA2).1; have r2 := (HCC.out _ hbA2).2.1; have r3 := (HCC.out _ hbA2).2.2; have HO2 := Lib.hid ho2; clear ho2 hg2))
  all_goals go_wp2
  all_goals
    go_end0
    obtain ⟨_, A9, c9, e9, hB9⟩ := Bs.own HO2.out
    injection e9 with e1 e2 e3
    subst e1 e3
    obtain ⟨S', z1, z2, z3⟩ := rf_set HAT.out hbA2 (g := g) (k := k) (A := A2) (n := ([] ++ last).length + b.length) (cap := cap2) (bs := [] ++ last ++ b) rfl (by have := HPL.out; have := HK.out; omega) hB9 (by simp) (fun a ha => HO2.out.lt a.block (by rw [ha]; rfl))
    have e4 : s.parts.set k ([] ++ last ++ b) = init ++ [last ++ b] := by rw [HP.out, HK.out, List.set_append_right _ _ (Nat.le_refl _), Nat.sub_self]; simp
    rw [e4] at z1
    exact ⟨⟨_, rfl⟩, S', ⟨_, _, _, z1⟩, z2, z3⟩
end Go.Proofs.Ytnhaeapkncnimaa

/- Plain words (no program here): the writer and the document's say the same. -/
namespace Go.Proofs.Ytnhaeapkncnimaa
open Go.Lib (uvarint)
set_option linter.unusedVariables false

/-- The writer's pieces in groups: what lies before the first open frame, and what lies in each. -/
structure Like (s : Ws) (m : Rs) (gs : List (List (List UInt8))) : Prop where
  asc : Asc s.raw.length s.fs
  room : s.room = headSum s.fs
  none_ : s.op = [] → s.fs = []
  flat : gs.flatten = alls s.raw s.fs
  parts : m.parts = gs.map List.flatten
  len : gs.length = s.op.length + 1
  nums : m.nums.length = s.op.length
  fr : ∀ (j o : Nat), s.op[j]? = some o → ∃ num f, m.nums[j]? = some num ∧ s.fs[o]? = some f ∧ f.head = [] ∧ f.tag = tagN num 2 ∧ rightB num 2 = true ∧ f.before = (m.parts.take (j + 1)).flatten.length ∧ o + 1 = (gs.take (j + 1)).flatten.length
  ne : ∀ g, g ∈ gs → g ≠ []
theorem like_new : Like ⟨[], [], [], 0⟩ ⟨[[]], []⟩ [[[]]] :=
  ⟨trivial, rfl, fun _ => rfl, rfl, rfl, rfl, rfl, (fun j o h => by simp at h), fun g hg => by simp at hg; simp [hg]⟩
theorem flat_map (gs : List (List (List UInt8))) : (gs.map List.flatten).flatten = gs.flatten.flatten := by
  induction gs with
  | nil => rfl
  | cons g gs ih => simp [ih]
section
variable {s : Ws} {m : Rs} {gs : List (List (List UInt8))}
theorem Like.total (h : Like s m gs) : s.raw.length + s.room = m.parts.flatten.length := by
  rw [h.parts, flat_map, h.flat, alls_total h.asc, h.room]
theorem Like.bytes (h : Like s m gs) (ho : s.op = []) : m.parts = [s.raw] := by
  have hl := h.len
  have hf := h.flat
  rw [h.none_ ho] at hf
  rw [ho] at hl
  match gs, hl, hf, h.parts with
  | [g], _, hf, hp =>
    simp [alls, nextP, pieces] at hf
    rw [hp, hf]
    simp
/-- The last group, and its last piece. -/
theorem Like.last (h : Like s m gs) : ∃ G g x, gs = G ++ [g ++ [x]] ∧ G.length = s.op.length := by
  have hl := h.len
  obtain ⟨G, g, rfl⟩ : ∃ G g, gs = G ++ [g] := ⟨gs.dropLast, gs.getLast (by intro e; rw [e] at hl; simp at hl), (List.dropLast_concat_getLast _).symm⟩
  have hG : G.length = s.op.length := by simpa using hl
  have hne : g ≠ [] := by
    intro e
    subst e
    have hf := congrArg List.length h.flat
    rw [alls_length] at hf
    simp only [List.flatten_append, List.flatten_cons, List.flatten_nil, List.append_nil] at hf
    rcases hop : s.op.length with _ | k
    · rw [hop] at hG
      rw [List.eq_nil_of_length_eq_zero hG] at hf
      simp at hf
    · obtain ⟨o, ho⟩ : ∃ o, s.op[k]? = some o := ⟨_, List.getElem?_eq_getElem (by omega)⟩
      obtain ⟨num, f, _, hfo, _, _, _, _, hq⟩ := h.fr k o ho
      rw [List.take_append_of_le_length (by omega), List.take_of_length_le (by omega)] at hq
      have := (List.getElem?_eq_some_iff.mp hfo).1
      omega
  exact ⟨G, g.dropLast, g.getLast hne, by rw [List.dropLast_concat_getLast], hG⟩
theorem Like.plain (h : Like s m gs) (b : List UInt8) : ∃ gs' init last, m.parts = init ++ [last] ∧ init.length = s.op.length ∧ Like (s.plain b) (m.plain init last b) gs' := by
  obtain ⟨G, g, x, rfl, hG⟩ := h.last
  obtain ⟨i, l, e1, e2⟩ := alls_more b h.asc
  have hf := h.flat
  rw [e1] at hf
  have hf2 : (G.flatten ++ g) ++ [x] = i ++ [l] := by rw [← hf]; simp
  obtain ⟨hi, hl⟩ := List.append_inj' hf2 rfl
  injection hl with hl
  subst hi hl
  have hp : m.parts = G.map List.flatten ++ [(g ++ [x]).flatten] := by rw [h.parts]; simp
  refine ⟨G ++ [g ++ [x ++ b]], G.map List.flatten, (g ++ [x]).flatten, hp, by simpa using hG, ⟨?_, h.room, h.none_, ?_, ?_, ?_, h.nums, fun j o ho => ?_, fun q hq => ?_⟩⟩
  · show Asc (s.raw ++ b).length s.fs
    rw [List.length_append]
    exact asc_more _ h.asc
  · show _ = alls (s.raw ++ b) s.fs
    rw [e2]; simp
  · show _ ++ [_] = _
    simp
  · show _ = s.op.length + 1
    simpa using h.len
  · obtain ⟨num, f, a1, a2, a3, a4, a5, a6, a7⟩ := h.fr j o ho
    have hj : j < s.op.length := (List.getElem?_eq_some_iff.mp ho).1
    refine ⟨num, f, a1, a2, a3, a4, a5, ?_, ?_⟩
    · rw [a6, hp]
      show _ = ((G.map List.flatten ++ [_]).take (j + 1)).flatten.length
      rw [List.take_append_of_le_length (by simp; omega), List.take_append_of_le_length (by simp; omega)]
    · rw [a7, List.take_append_of_le_length (by omega), List.take_append_of_le_length (by omega)]
  · rcases List.mem_append.mp hq with hq | hq
    · exact h.ne q (List.mem_append_left _ hq)
    · simp at hq; simp [hq]
theorem Like.opens (h : Like s m gs) (num : Int) (hr : rightB num 2 = true) : Like (s.opens num) ⟨m.parts ++ [[]], m.nums ++ [num]⟩ (gs ++ [[[]]]) := by
  have e : s.opens num = ⟨s.raw, s.fs ++ [⟨tagN num 2, s.raw.length, s.raw.length + s.room, []⟩], s.op ++ [s.fs.length], s.room⟩ := by unfold Ws.opens; rw [if_pos hr]
  have hpl : m.parts.length = s.op.length + 1 := by rw [h.parts, List.length_map, h.len]
  rw [e]
  refine ⟨asc_snoc (f := ⟨tagN num 2, s.raw.length, s.raw.length + s.room, []⟩) rfl h.asc, ?_, fun ho => by simp at ho, ?_, ?_, ?_, ?_, fun j o ho => ?_, fun q hq => ?_⟩
  · show s.room = headSum (s.fs ++ _)
    rw [headSum_append, h.room]; simp [headSum]
  · show _ = alls s.raw (s.fs ++ _)
    rw [alls_snoc (f := ⟨tagN num 2, s.raw.length, s.raw.length + s.room, []⟩) rfl rfl, ← h.flat]; simp
  · show m.parts ++ [[]] = _
    rw [h.parts]; simp
  · simp [h.len]
  · simp [h.nums]
  · change (s.op ++ [s.fs.length])[j]? = some o at ho
    by_cases hj : j < s.op.length
    · rw [List.getElem?_append_left hj] at ho
      obtain ⟨num', f, a1, a2, a3, a4, a5, a6, a7⟩ := h.fr j o ho
      have hof := (List.getElem?_eq_some_iff.mp a2).1
      refine ⟨num', f, (List.getElem?_append_left (by have := h.nums; omega)).trans a1, (List.getElem?_append_left hof).trans a2, a3, a4, a5, ?_, ?_⟩
      · show f.before = ((m.parts ++ [[]]).take (j + 1)).flatten.length
        rw [a6, List.take_append_of_le_length (by omega)]
      · rw [a7, List.take_append_of_le_length (by have := h.len; omega)]
    · rw [List.getElem?_append_right (by omega)] at ho
      cases hjj : j - s.op.length with
      | succ i => rw [hjj] at ho; simp at ho
      | zero =>
        rw [hjj] at ho
        simp at ho
        subst ho
        have hj' : j = s.op.length := by omega
        subst hj'
        refine ⟨num, ⟨tagN num 2, s.raw.length, s.raw.length + s.room, []⟩, ?_, ?_, rfl, rfl, hr, ?_, ?_⟩
        · show (m.nums ++ [num])[s.op.length]? = _
          rw [List.getElem?_append_right (by have := h.nums; omega), h.nums, Nat.sub_self]; rfl
        · show (s.fs ++ [_])[s.fs.length]? = _
          rw [List.getElem?_append_right (Nat.le_refl _), Nat.sub_self]; rfl
        · show s.raw.length + s.room = ((m.parts ++ [[]]).take (s.op.length + 1)).flatten.length
          rw [List.take_append_of_le_length (by omega), List.take_of_length_le (by omega), h.total]
        · rw [List.take_append_of_le_length (by have := h.len; omega), List.take_of_length_le (by have := h.len; omega), h.flat, alls_length]
  · rcases List.mem_append.mp hq with hq | hq
    · exact h.ne q hq
    · simp at hq; simp [hq]
end
end Go.Proofs.Ytnhaeapkncnimaa

/- Plain words (no program here): Close of the writer and of the document's. -/
namespace Go.Proofs.Ytnhaeapkncnimaa
open Go.Lib (uvarint)
set_option linter.unusedVariables false

theorem Like.close {s : Ws} {m : Rs} {gs : List (List (List UInt8))} (h : Like s m gs) (hop : s.op ≠ []) :
    ∃ init o f ini pen last ns num gs', s.op = init ++ [o] ∧ s.fs[o]? = some f ∧ f.tag = tagN num 2 ∧ f.before ≤ s.raw.length + s.room ∧ Asc s.raw.length (s.shut1 init o f).fs ∧ (s.shut1 init o f).room = headSum (s.shut1 init o f).fs ∧
      m.parts = ini ++ [pen, last] ∧ m.nums = ns ++ [num] ∧ ns.length = ini.length ∧ rightB num 2 = true ∧ ini.length = init.length ∧
      Like (s.shut init o f) ⟨ini ++ [pen ++ (uvarint (tagN num 2) ++ (uvarint last.length ++ last))], ns⟩ gs' := by
  obtain ⟨init, o, hio⟩ : ∃ init o, s.op = init ++ [o] := ⟨s.op.dropLast, s.op.getLast hop, (List.dropLast_concat_getLast _).symm⟩
  have hol : s.op.length = init.length + 1 := by rw [hio]; simp
  obtain ⟨ns, num, hns⟩ : ∃ ns num, m.nums = ns ++ [num] := ⟨m.nums.dropLast, m.nums.getLast (by intro e; have := h.nums; rw [e] at this; simp at this; omega), (List.dropLast_concat_getLast _).symm⟩
  have hnl : ns.length = init.length := by have := h.nums; rw [hns, hol] at this; simpa using this
  obtain ⟨G', g, x, hgs, hG'⟩ := h.last
  obtain ⟨G, g1, rfl⟩ : ∃ G g1, G' = G ++ [g1] := ⟨G'.dropLast, G'.getLast (by intro e; rw [e] at hG'; simp at hG'; omega), (List.dropLast_concat_getLast _).symm⟩
  have hG : G.length = init.length := by rw [hol] at hG'; simpa using hG'
  obtain ⟨gl, hgl⟩ : ∃ gl, gl = g ++ [x] := ⟨_, rfl⟩
  rw [← hgl] at hgs
  subst hgs
  obtain ⟨num', f, a1, a2, a3, a4, a5, a6, a7⟩ := h.fr init.length o (by rw [hio, List.getElem?_append_right (Nat.le_refl _), Nat.sub_self]; rfl)
  have hnn : num' = num := by rw [hns, List.getElem?_append_right (by omega), hnl, Nat.sub_self] at a1; simpa using a1.symm
  subst hnn
  have hp : m.parts = G.map List.flatten ++ [g1.flatten, gl.flatten] := by rw [h.parts]; simp
  have htk : (G ++ [g1] ++ [gl]).take (init.length + 1) = G ++ [g1] := by
    rw [List.take_append_of_le_length (by simp [hG]), List.take_of_length_le (by simp [hG])]
  rw [htk] at a7
  have htot := h.total
  have hbl : f.before + gl.flatten.length = s.raw.length + s.room := by
    rw [a6, htot, hp]
    have : (G.map List.flatten ++ [g1.flatten, gl.flatten]).take (init.length + 1) = G.map List.flatten ++ [g1.flatten] := by
      rw [show G.map List.flatten ++ [g1.flatten, gl.flatten] = (G.map List.flatten ++ [g1.flatten]) ++ [gl.flatten] by simp, List.take_append_of_le_length (by simp [hG]), List.take_of_length_le (by simp [hG])]
    rw [this]
    simp
    omega
  obtain ⟨hd, hhd⟩ : ∃ hd, hd = f.headAt (s.raw.length + s.room) := ⟨_, rfl⟩
  have hhd2 : hd = uvarint (tagN num' 2) ++ uvarint gl.flatten.length := by
    rw [hhd, Fr.headAt, a4, show s.raw.length + s.room - f.before = gl.flatten.length by omega]
  obtain ⟨a, y, b, e1, e2, e3⟩ := alls_set (raw := s.raw) (g := f.headed hd) a2 a3 rfl
  have hf := h.flat
  rw [e1] at hf
  obtain ⟨h1, h2⟩ := List.append_inj (show (G ++ [g1]).flatten ++ gl = a ++ y :: b by rw [← hf]; simp) (by omega)
  have hasc : Asc s.raw.length (s.fs.set o (f.headed hd)) := asc_set o a2 rfl h.asc
  have hroom : s.room + hd.length = headSum (s.fs.set o (f.headed hd)) := by rw [headSum_set _ _ a2 a3, h.room]; rfl
  have hnew : alls s.raw (s.fs.set o (f.headed hd)) = (G ++ [g1]).flatten ++ ((hd ++ y) :: b) := by rw [e3, h1]; rfl
  have hpart : (g1 ++ ((hd ++ y) :: b)).flatten = g1.flatten ++ (uvarint (tagN num' 2) ++ (uvarint gl.flatten.length ++ gl.flatten)) := by
    have hx : ((hd ++ y) :: b).flatten = hd ++ gl.flatten := by rw [h2]; simp
    rw [List.flatten_append, hx, hhd2]; simp
  have hshut1 : s.shut1 init o f = ⟨s.raw, s.fs.set o (f.headed hd), init, s.room + hd.length⟩ := by rw [Ws.shut1, hhd]
  have hrest : ∃ gs', Like (s.shut init o f) ⟨G.map List.flatten ++ [g1.flatten ++ (uvarint (tagN num' 2) ++ (uvarint gl.flatten.length ++ gl.flatten))], ns⟩ gs' := by
    unfold Ws.shut
    rw [hshut1]
    by_cases hin : init = []
    · rw [if_pos hin]
      have hG0 : G = [] := List.eq_nil_of_length_eq_zero (by rw [hG, hin]; rfl)
      have hn0 : ns = [] := List.eq_nil_of_length_eq_zero (by rw [hnl, hin]; rfl)
      have hraw : s.raw.take (nextP s.raw.length (s.fs.set o (f.headed hd))) ++ laid s.raw (s.fs.set o (f.headed hd)) = g1.flatten ++ (uvarint (tagN num' 2) ++ (uvarint gl.flatten.length ++ gl.flatten)) := by
        rw [← alls_flat, hnew, hG0, ← hpart]; simp
      unfold Ws.lay
      rw [hraw, hG0, hn0, hin]
      refine ⟨[[g1.flatten ++ (uvarint (tagN num' 2) ++ (uvarint gl.flatten.length ++ gl.flatten))]], ⟨trivial, rfl, fun _ => rfl, ?_, ?_, rfl, rfl, (fun j o h => by simp at h), fun q hq => by simp at hq; simp [hq]⟩⟩
      · rw [alls, pieces, nextP, List.take_length]; rfl
      · simp
    · rw [if_neg hin]
      refine ⟨G ++ [g1 ++ ((hd ++ y) :: b)], ⟨hasc, hroom, fun e => absurd e hin, ?_, ?_, by simp [hG], hnl, fun j oj hj => ?_, fun q hq => ?_⟩⟩
      · show _ = alls s.raw (s.fs.set o (f.headed hd))
        rw [hnew]; simp
      · show _ ++ [_] = _
        rw [List.map_append, List.map_cons, List.map_nil, hpart]
      · change init[j]? = some oj at hj
        have hjl : j < init.length := (List.getElem?_eq_some_iff.mp hj).1
        obtain ⟨nj, fj, b1, b2, b3, b4, b5, b6, b7⟩ := h.fr j oj (by rw [hio, List.getElem?_append_left hjl]; exact hj)
        have htj : (G ++ [g1] ++ [gl]).take (j + 1) = G.take (j + 1) := by
          rw [List.take_append_of_le_length (by simp; omega), List.take_append_of_le_length (by omega)]
        have hne : o ≠ oj := by
          intro e
          rw [htj, ← e] at b7
          rw [b7] at a7
          have : (G.take (j + 1)).flatten.length ≤ G.flatten.length := by
            conv => rhs; rw [← List.take_append_drop (j + 1) G]
            rw [List.flatten_append, List.length_append]; omega
          have hg1 := List.length_pos_iff.mpr (h.ne g1 (by simp))
          simp only [List.flatten_append, List.length_append, List.flatten_cons, List.flatten_nil, List.length_nil, Nat.add_zero] at a7
          omega
        refine ⟨nj, fj, ?_, ?_, b3, b4, b5, ?_, ?_⟩
        · rw [hns, List.getElem?_append_left (by omega)] at b1; exact b1
        · show (s.fs.set o _)[oj]? = _
          rw [List.getElem?_set_ne hne]; exact b2
        · show fj.before = ((G.map List.flatten ++ [_]).take (j + 1)).flatten.length
          rw [b6, hp, List.take_append_of_le_length (by simp; omega), List.take_append_of_le_length (by simp; omega)]
        · rw [b7, htj, List.take_append_of_le_length (by omega)]
      · rcases List.mem_append.mp hq with hq | hq
        · exact h.ne q (by simp [hq])
        · simp at hq; simp [hq]
  obtain ⟨gs', hlike⟩ := hrest
  exact ⟨init, o, f, G.map List.flatten, g1.flatten, gl.flatten, ns, num', gs', hio, a2, a4, by omega, by rw [hshut1]; exact hasc, by rw [hshut1]; exact hroom, hp, hns, by simp [hnl, hG], a5, by simp [hG], hlike⟩
end Go.Proofs.Ytnhaeapkncnimaa

/- The document's writer: New, Field, Len. Conditions: those that each theorem names. -/
namespace Go.Proofs.Ytnhaeapkncnimaa
open Go.RowKit
open Go.Lib (uvarint)
set_option linter.unusedVariables false
set_option maxRecDepth 100000

def rNewW (w : World) : World := ((w.alloc (.cells #[] 5)).alloc (.cells #[.slice (some ⟨w.heap.size, 0, none⟩) 0 0] 38)).alloc (.cells #[.slice (some ⟨w.heap.size + 1, 0, none⟩) 1 1, .slice none 0 0] 37)
theorem rnew_any (w : World) : Calls Try.prog 9 #[] w fun e w' => e = .returned (.pointer (some ⟨w.heap.size + 1 + 1, 0, none⟩)) ∧ w' = rNewW w := by
  unfold rNewW
  go_enter Try.func9, Try.ntmps9
  go_wp2
  go_ret
  exact ⟨rfl, rfl⟩
theorem rnew_below (w : World) : Below w.heap.size w (rNewW w) := (((Below.refl _ w).alloc (Nat.le_refl _) _).alloc (by simp) _).alloc (by simp; omega) _
theorem rnew_rf (w : World) : Rf w.heap.size (rNewW w) (w.heap.size + 1 + 1) (fun k => w.heap.size ≤ k ∧ k < w.heap.size + 3) ⟨[[]], []⟩ := by
  have s1 : (w.alloc (.cells #[] 5)).heap.size = w.heap.size + 1 := by simp
  have s2 : ((w.alloc (.cells #[] 5)).alloc (.cells #[.slice (some ⟨w.heap.size, 0, none⟩) 0 0] 38)).heap.size = w.heap.size + 1 + 1 := by simp
  have h3 : (rNewW w).heap[w.heap.size + 1 + 1]? = some (.cells #[.slice (some ⟨w.heap.size + 1, 0, none⟩) 1 1, .slice none 0 0] 37 (0, 0)) := by rw [← s2]; exact heap_alloc_new _ _
  have h2 : (rNewW w).heap[w.heap.size + 1]? = some (.cells #[.slice (some ⟨w.heap.size, 0, none⟩) 0 0] 38 (0, 0)) := (Below.heap_alloc _ _ _ (by rw [s2]; omega)).trans (by rw [← s1]; exact heap_alloc_new _ _)
  have hs : (rNewW w).heap.size = w.heap.size + 3 := by simp [rNewW]
  refine ⟨.slice (some ⟨w.heap.size + 1, 0, none⟩) 1 1, .slice none 0 0, [.slice (some ⟨w.heap.size, 0, none⟩) 0 0], ⟨h3, ⟨rfl, .inr ⟨w.heap.size + 1, 1, _, rfl, by omega, h2, Nat.le_refl _, by decide, rfl, rfl⟩⟩, World.ownsRow_nil _ _ _ _, fun j v bs hv hb => ?_, ⟨by omega, by omega⟩, fun k e => by cases e; exact ⟨Nat.le_succ _, by show w.heap.size + 1 < w.heap.size + 3; omega⟩, fun k e => (by cases e), fun k hk => ⟨hk.1, by omega⟩⟩⟩
  match j, hv, hb with
  | 0, hv, hb =>
    simp at hv hb
    subst hv hb
    refine ⟨some ⟨w.heap.size, 0, none⟩, 0, rfl, ⟨Nat.le_refl _, by decide, (fun h => by cases h), fun j c hj => by simp at hj⟩, fun a e => by cases e; exact ⟨⟨Nat.le_refl _, by show w.heap.size < w.heap.size + 3; omega⟩, by show w.heap.size ≠ _; omega, by simp [Value.ownBlock], by simp [Value.ownBlock]⟩⟩
  | j + 1, hv, hb => simp at hv

/-- Field, whatever the bytes are. -/
theorem rfield_any {B p : Nat} {S : Nat → Prop} {s : Rs} {w : World} (h : Rf B w p S s) {init : List (List UInt8)} {last fb : List UInt8} (hp : s.parts = init ++ [last]) (num wire : Int) (n : Int) (t : ByteArray) (hr : rightB num wire = true)
    (hby : ∀ w, Calls Try.prog 47 #[.int .i64 num, .int .i64 wire, .int .u64 n, .string t] w (GivesOwn w fb)) (h47 : last.length + fb.length ≤ 140737488355328) (hil : init.length ≤ 1099511627776) :
    Calls Try.prog 28 #[.pointer (some ⟨p, 0, none⟩), .int .i64 num, .int .i64 wire, .int .u64 n, .string t] w (RfTo B w p S (s.plain init last fb) (.bool true)) := by
  have HR := Lib.hid (rright_any num wire w)
  rw [hr] at HR
  have H := Lib.hid h
  have HP := Lib.hid hp
  have HBY := Lib.hid hby
  clear h hp hby hr
  go_enter Try.func28, Try.ntmps28
  go_wp2_with (first
    | (go_at_call 46; refine HR.out.mono ?_; rintro e w' ⟨rfl, rfl⟩)
    | (go_at_call 47; refine (HBY.out _).mono ?_; rintro e w1 ⟨v1, n1, rfl, ho1, hb1⟩; obtain ⟨hn1, A1, cap1, hv1, hB1⟩ := Bs.own ho1; subst hv1; have HB1 := Lib.hid hB1; have HBE := Lib.hid hb1; clear ho1 hb1 hB1 hn1)
    | (go_at_call 31; refine (rplain_any (H.out.bel HBE.out) HP.out HB1.out rfl h47 hil).mono ?_; rintro e w2 ⟨⟨v2, rfl⟩, hq⟩; have HQ := Lib.hid hq; clear hq))
  go_ret
  obtain ⟨S', q1, q2, q3⟩ := HQ.out
  exact ⟨rfl, S', q1, fun k hk => (q2 k hk).imp id (fun h => Nat.le_trans HBE.out.size h), (Touch.of_below S HBE.out).trans q3 (fun _ h => .inl h)⟩
theorem rfield_no {B p : Nat} {S : Nat → Prop} {s : Rs} {w : World} (h : Rf B w p S s) (num wire : Int) (n : Int) (t : ByteArray) (hr : rightB num wire = false) :
    Calls Try.prog 28 #[.pointer (some ⟨p, 0, none⟩), .int .i64 num, .int .i64 wire, .int .u64 n, .string t] w (RfTo B w p S s (.bool false)) := by
  have HR := Lib.hid (rright_any num wire w)
  rw [hr] at HR
  have H := Lib.hid h
  clear h hr
  go_enter Try.func28, Try.ntmps28
  go_wp2_with (go_at_call 46; refine HR.out.mono ?_; rintro e w' ⟨rfl, rfl⟩)
  go_ret
  exact ⟨rfl, S, H.out, fun _ hk => .inl hk, Touch.refl _ _⟩
end Go.Proofs.Ytnhaeapkncnimaa

/- The document's writer: Open, Close, Len. Conditions: those that each theorem names. -/
namespace Go.Proofs.Ytnhaeapkncnimaa
open Go.RowKit
open Go.Lib (uvarint)
set_option linter.unusedVariables false
set_option maxRecDepth 100000

section
variable {B p : Nat} {S : Nat → Prop} {s : Rs} {vp vn : Value} {vs : List Value} {w w2 : World}
/-- One part more, of nothing. -/
theorem rf_more (h : RfAt B w p S s vp vn vs) {w1 : World} (hb : Below w.heap.size w w1) (hg : w1.grownBy w2 vp.ownBlock) {v2 : Value} (hm : Moved w1 vp v2) {g : Nat} (hgn : w.heap.size ≤ g ∧ g < w2.heap.size) (hgb : v2.ownBlock ≠ some g)
    (ho : w2.ownsRow B 38 1 v2 (s.parts.length + 1) (vs ++ [.slice (some ⟨g, 0, none⟩) 0 0])) :
    ∃ S', RfAt B (w2.setCell ⟨p, 0, none⟩ v2) p S' ⟨s.parts ++ [[]], s.nums⟩ v2 vn (vs ++ [.slice (some ⟨g, 0, none⟩) 0 0]) ∧ (∀ i, S' i → S i ∨ w.heap.size ≤ i) ∧ Touch S w (w2.setCell ⟨p, 0, none⟩ v2) := by
  have hg' := grown_below hb hg
  have hm' := moved_below hb hm
  have hlt := fun i hi => (h.lt i hi).2
  have hpl := hlt p h.sp
  have hB : B ≤ w.heap.size := by have := h.lt p h.sp; omega
  have hpb : some p ≠ vp.ownBlock := fun e => own_other h.row h.obj (by decide) e.symm
  have hp2 := (hg'.block p hpl hpb).trans h.obj
  have hvl : vs.length = s.parts.length := by have := h.row.1; omega
  refine ⟨Since S w (w2.setCell ⟨p, 0, none⟩ v2), ⟨(obj_set hp2 0 v2).trans rfl, by rw [List.length_append]; exact own_put ho 0 v2 (not_moved hm' hpl (fun e => hpb e.symm)), ?_, fun j v bs hv hb' => ?_, .inl h.sp, moved_lt hm' h.sv ho, fun k e => .inl (h.sn k e), since_lt h.lt hB hg'.size⟩, since_of, touch_put hg' h.sv h.sp _ _⟩
  · exact own_block h.nums (fun k e => put_other hg' 0 v2 (hlt k (h.sn k e)) (fun e' => own_own h.row h.nums (by decide) e e'.symm) (fun e' => own_other h.nums h.obj (by decide) (e' ▸ e)))
  · have hsz : (w2.setCell ⟨p, 0, none⟩ v2).heap.size = w2.heap.size := by simp [World.setCell]
    by_cases hj : j < vs.length
    · rw [List.getElem?_append_left hj] at hv
      rw [List.getElem?_append_left (by omega)] at hb'
      obtain ⟨A, cap, e, hB', ha⟩ := h.part j v bs hv hb'
      exact ⟨A, cap, e, Bs.heap hB' (fun a ea => put_other hg' 0 v2 (hlt _ (ha a ea).1) (fun e' => (ha a ea).2.2.1 e'.symm) (ha a ea).2.1), fun a ea => ⟨.inl (ha a ea).1, (ha a ea).2.1, not_moved hm' (hlt _ (ha a ea).1) (ha a ea).2.2.1, (ha a ea).2.2.2⟩⟩
    · rw [List.getElem?_append_right (by omega)] at hv
      rw [List.getElem?_append_right (by omega), ← hvl] at hb'
      cases hjj : j - vs.length with
      | zero =>
        rw [hjj] at hv hb'
        simp at hv hb'
        subst hv hb'
        refine ⟨some ⟨g, 0, none⟩, 0, rfl, ⟨Nat.le_refl _, by decide, (fun h => by cases h), fun j c hj => by simp at hj⟩, fun a e => by cases e; exact ⟨.inr ⟨hgn.1, by rw [hsz]; exact hgn.2⟩, fun e => by have := hgn.1; have : g = p := e; omega, hgb, fun e => Nat.lt_irrefl _ (Nat.lt_of_lt_of_le (hlt g (h.sn g e)) hgn.1)⟩⟩
      | succ i => rw [hjj] at hv; simp at hv
theorem rf_nums (h : RfAt B w p S s vp vn vs) {w1 : World} (hb : Below w.heap.size w w1) (hg : w1.grownBy w2 vn.ownBlock) {v2 : Value} (hm : Moved w1 vn v2) {nums2 : List Int} (ho : w2.ownsRow B 3 1 v2 nums2.length (numsRow nums2)) :
    ∃ S', RfAt B (w2.setCell ⟨p, 1, none⟩ v2) p S' ⟨s.parts, nums2⟩ vp v2 vs ∧ (∀ i, S' i → S i ∨ w.heap.size ≤ i) ∧ Touch S w (w2.setCell ⟨p, 1, none⟩ v2) := by
  have hg' := grown_below hb hg
  have hm' := moved_below hb hm
  have hlt := fun i hi => (h.lt i hi).2
  have hpl := hlt p h.sp
  have hB : B ≤ w.heap.size := by have := h.lt p h.sp; omega
  have hpb : some p ≠ vn.ownBlock := fun e => own_other h.nums h.obj (by decide) e.symm
  have hp2 := (hg'.block p hpl hpb).trans h.obj
  refine ⟨Since S w (w2.setCell ⟨p, 1, none⟩ v2), ⟨(obj_set hp2 1 v2).trans rfl, ?_, own_put ho 1 v2 (not_moved hm' hpl (fun e => hpb e.symm)), fun j v bs hv hb' => ?_, .inl h.sp, fun k e => .inl (h.sv k e), moved_lt hm' h.sn ho, since_lt h.lt hB hg'.size⟩, since_of, touch_put hg' h.sn h.sp _ _⟩
  · exact own_block h.row (fun k e => put_other hg' 1 v2 (hlt k (h.sv k e)) (fun e' => own_own h.nums h.row (by decide) e e'.symm) (fun e' => own_other h.row h.obj (by decide) (e' ▸ e)))
  · obtain ⟨A, cap, e, hB', ha⟩ := h.part j v bs hv hb'
    exact ⟨A, cap, e, Bs.heap hB' (fun a ea => put_other hg' 1 v2 (hlt _ (ha a ea).1) (fun e' => (ha a ea).2.2.2 e'.symm) (ha a ea).2.1), fun a ea => ⟨.inl (ha a ea).1, (ha a ea).2.1, (ha a ea).2.2.1, not_moved hm' (hlt _ (ha a ea).1) (ha a ea).2.2.2⟩⟩
/-- The parts up to one. -/
theorem rf_take {g cap : Nat} (h : RfAt B w p S s (.slice (some ⟨g, 0, none⟩) s.parts.length cap) vn vs) {k : Nat} (hk : k ≤ s.parts.length) :
    ∃ S', RfAt B (w.setCell ⟨p, 0, none⟩ (.slice (some ⟨g, 0, none⟩) k cap)) p S' ⟨s.parts.take k, s.nums⟩ (.slice (some ⟨g, 0, none⟩) k cap) vn (vs.take k) ∧ (∀ i, S' i → S i ∨ w.heap.size ≤ i) ∧ Touch S w (w.setCell ⟨p, 0, none⟩ (.slice (some ⟨g, 0, none⟩) k cap)) := by
  have hlt := fun i hi => (h.lt i hi).2
  have hpl := hlt p h.sp
  have hB : B ≤ w.heap.size := by have := h.lt p h.sp; omega
  have hr := World.grownBy.refl w (some g)
  have hpb : some p ≠ some g := fun e => own_other h.row h.obj (by decide) e.symm
  have ho := own_take h.row hk
  rw [Nat.mul_one] at ho
  refine ⟨Since S w (w.setCell ⟨p, 0, none⟩ (.slice (some ⟨g, 0, none⟩) k cap)), ⟨(obj_set h.obj 0 _).trans rfl, by rw [List.length_take, Nat.min_eq_left hk]; exact own_put ho 0 _ (fun e => hpb e.symm), ?_, fun j v bs hv hb' => ?_, .inl h.sp, fun k e => .inl (h.sv k e), fun k e => .inl (h.sn k e), since_lt h.lt hB (Nat.le_refl _)⟩, since_of, touch_put hr h.sv h.sp _ _⟩
  · exact own_block h.nums (fun k e => put_other hr 0 _ (hlt k (h.sn k e)) (fun e' => own_own h.row h.nums (by decide) e e'.symm) (fun e' => own_other h.nums h.obj (by decide) (e' ▸ e)))
  · rw [List.getElem?_take] at hv hb'
    split at hv
    · rename_i hjk
      rw [if_pos hjk] at hb'
      obtain ⟨A, cap', e, hB', ha⟩ := h.part j v bs hv hb'
      exact ⟨A, cap', e, Bs.heap hB' (fun a ea => put_other hr 0 _ (hlt _ (ha a ea).1) (fun e' => (ha a ea).2.2.1 e'.symm) (ha a ea).2.1), fun a ea => ⟨.inl (ha a ea).1, (ha a ea).2.1, (ha a ea).2.2.1, (ha a ea).2.2.2⟩⟩
    · cases hv
end
end Go.Proofs.Ytnhaeapkncnimaa

/- The document's writer: Open, Len. Conditions: those that each theorem names. -/
namespace Go.Proofs.Ytnhaeapkncnimaa
open Go.RowKit
open Go.Lib (uvarint)
set_option linter.unusedVariables false
set_option maxRecDepth 100000

theorem winfo_bytes : (Try.prog.info? 38).map (fun i => (i.zero, i.size, i.bytes)) = some (some (.slice none 0 0), 1, 24) := by kernel_rfl
theorem numsRow_append (a b : List Int) : numsRow (a ++ b) = numsRow a ++ numsRow b := by simp [numsRow]

set_option maxHeartbeats 1000000 in
theorem ropen_any {B p : Nat} {S : Nat → Prop} {s : Rs} {w : World} (h : Rf B w p S s) (num : Int) (hr : rightB num 2 = true) (hpl : s.parts.length ≤ 1099511627776) (hnl : s.nums.length ≤ 1099511627776) :
    Calls Try.prog 29 #[.pointer (some ⟨p, 0, none⟩), .int .i64 num] w (RfTo B w p S ⟨s.parts ++ [[]], s.nums ++ [num]⟩ (.bool true)) := by
  have HR := Lib.hid (rright_any num 2 w)
  rw [hr] at HR
  clear hr
  obtain ⟨i0, hi, hz0, hz1, hz2⟩ := info_parts winfo_int
  obtain ⟨i1, hi1, hy0, hy1, hy2⟩ := info_parts winfo_bytes
  obtain ⟨vp, vn, vs, hat⟩ := h
  obtain ⟨Ap, cp, hvp, x1, x2, _, _⟩ := own_form hat.row
  obtain ⟨An, cn, hvn, y1, y2, _, _⟩ := own_form hat.nums
  subst hvp hvn
  have c0 := obj_cell hat.obj 0
  have c1 := obj_cell hat.obj 1
  have f0 := obj_free hat.obj 0
  have hpb : p < w.heap.size := (hat.lt p hat.sp).2
  have hBw : B ≤ w.heap.size := by have := hat.lt p hat.sp; omega
  obtain ⟨np, hnp⟩ : ∃ np, np = s.parts.length := ⟨_, rfl⟩
  obtain ⟨nn, hnn⟩ : ∃ nn, nn = s.nums.length := ⟨_, rfl⟩
  rw [← hnp] at c0 c1 x1 hpl
  rw [← hnn] at c0 c1 y1 hnl
  unfold maxLen at x2 y2
  have HAT := Lib.hid hat
  have HNP := Lib.hid hnp
  have HNN := Lib.hid hnn
  clear hat hnp hnn
  go_enter Try.func29, Try.ntmps29
  go_wp2_with (first
    | (go_at_call 46; refine HR.out.mono ?_; rintro e w' ⟨rfl, rfl⟩)
    | (at_builtin; refine wpList_append2 rfl _ _ 34 rfl B 38 i1 (.slice none 0 0) 1 24 Try.underlying34 hi1 hy0 hy1 hy2 rfl (by decide) (.slice Ap np cp) np vs rfl (own_bel (B := B) (show w.ownsRow B 38 1 (.slice Ap np cp) np vs from by have := HAT.out.row; rwa [← HNP.out] at this) (((Below.refl _ w).alloc (Nat.le_refl _) _).alloc (by simp) _)) ⟨w.heap.size + 1, 0, none⟩ 1 1 [.slice (some ⟨w.heap.size, 0, none⟩) 0 0] rfl rfl (by have q := cells_new (w.alloc (.cells #[] 5)) [.slice (some ⟨w.heap.size, 0, none⟩) 0 0] 38; rw [World.size_alloc] at q; exact q) (by intro u hu; simp at hu; subst hu; rfl) (by unfold maxLen; omega) (by omega) (by simp; omega) ?_
       intro v2 w2 hown2 hg2 hm2
       obtain ⟨A2, cap2, hv2, _, _, _, _⟩ := own_form hown2
       subst hv2
       have hb2 : Below w.heap.size w ((w.alloc (.cells #[] 5)).alloc (.cells #[.slice (some ⟨w.heap.size, 0, none⟩) 0 0] 38)) := ((Below.refl _ w).alloc (Nat.le_refl _) _).alloc (by simp) _
       have hp2 := (hg2.block p (by simp; omega) (fun e => own_other HAT.out.row HAT.out.obj (by decide) (by rw [← HNP.out]; exact e.symm))).trans ((hb2.block p hpb).trans HAT.out.obj)
       have c20 := obj_cell hp2 0
       have c21 := obj_cell hp2 1
       rw [← HNP.out, ← HNN.out] at c20 c21
       have f20 := obj_free hp2 0
       have f21 := obj_free hp2 1
       have hg3 := hg2
       have hm3 := hm2
       rw [HNP.out] at hg3 hm3
       have hgn : w.heap.size < w2.heap.size := by have := hg2.size; simp at this; omega
       have hrf := rf_more HAT.out hb2 hg3 hm3 (g := w.heap.size) ⟨Nat.le_refl _, hgn⟩ (by
         rcases hm3 with e | ⟨g', e, hg'⟩
         · rw [← HNP.out] at e ⊢
           rw [e]
           exact fun e' => by have := HAT.out.lt _ (HAT.out.sv w.heap.size (by rw [← HNP.out]; exact e')); omega
         · rw [e]; intro e'; cases e'; simp at hg'; omega) (by rw [← HNP.out]; exact hown2)
       rw [← HNP.out] at hrf
       have HRF := Lib.hid hrf
       clear hown2 hg2 hm2 hg3 hm3 hb2 hp2 hrf)
    | (at_builtin; go_loud (obtain ⟨S1, q1, q2, q3⟩ := HRF.out; refine wpList_append2 rfl _ _ 35 rfl B 3 i0 (.int .i64 0) 1 8 Try.underlying35 hi hz0 hz1 hz2 rfl (by decide) (.slice An nn cn) nn (numsRow s.nums) rfl (own_bel (B := B) (show (w2.setCell ⟨p, 0, none⟩ (.slice A2 (np + 1) cap2)).ownsRow B 3 1 (.slice An nn cn) nn (numsRow s.nums) from by have := q1.nums; rwa [← HNN.out] at this) ((Below.refl _ (w2.setCell ⟨p, 0, none⟩ (.slice A2 (np + 1) cap2))).alloc (Nat.le_refl _) _)) ⟨w2.heap.size, 0, none⟩ 1 1 [.int .i64 num] rfl rfl (by have q := cells_new (w2.setCell ⟨p, 0, none⟩ (.slice A2 (np + 1) cap2)) [.int .i64 num] 3; rw [show (w2.setCell ⟨p, 0, none⟩ (.slice A2 (np + 1) cap2)).heap.size = w2.heap.size by simp [World.setCell]] at q; exact q) (by intro u hu; simp at hu; subst hu; rfl) (by unfold maxLen; omega) (by omega) (by simp [World.setCell] <;> omega) ?_; intro v3 w3 hown3 hg3 hm3; obtain ⟨A3, cap3, hv3, _, _, _, _⟩ := own_form hown3; subst hv3; have hb3 : Below (w2.setCell ⟨p, 0, none⟩ (.slice A2 (np + 1) cap2)).heap.size (w2.setCell ⟨p, 0, none⟩ (.slice A2 (np + 1) cap2)) ((w2.setCell ⟨p, 0, none⟩ (.slice A2 (np + 1) cap2)).alloc (.cells #[.int .i64 num] 3)) := (Below.refl _ _).alloc (Nat.le_refl _) _; have hpb3 : p < (w2.setCell ⟨p, 0, none⟩ (.slice A2 (np + 1) cap2)).heap.size := (by simp [World.setCell] <;> omega); have hp3 := (hg3.block p (by simp [World.setCell] <;> omega) (fun e => own_other q1.nums q1.obj (by decide) (by rw [← HNN.out]; exact e.symm))).trans ((hb3.block p hpb3).trans q1.obj); have c30 := obj_cell hp3 0; have c31 := obj_cell hp3 1; have f31 := obj_free hp3 1; rw [HNN.out] at hg3 hm3; have hrf := rf_nums q1 (nums2 := s.nums ++ [num]) hb3 hg3 hm3 (by rw [numsRow_append, List.length_append, ← HNN.out]; exact hown3); rw [← HNN.out] at hrf; have HRG := Lib.hid hrf; have HQ := Lib.hid (And.intro q2 q3); clear hown3 hg3 hm3 hb3 hp3 hrf q1 q2 q3)))
  go_ret
  obtain ⟨S2, r1, r2, r3⟩ := HRG.out
  obtain ⟨q2, q3⟩ := HQ.out
  exact ⟨rfl, S2, ⟨_, _, _, r1⟩, fun k hk => (r2 k hk).elim (q2 k) (fun h => .inr (by simp [World.setCell] at h; omega)), q3.trans r3 q2⟩
theorem ropen_no {B p : Nat} {S : Nat → Prop} {s : Rs} {w : World} (h : Rf B w p S s) (num : Int) (hr : rightB num 2 = false) :
    Calls Try.prog 29 #[.pointer (some ⟨p, 0, none⟩), .int .i64 num] w (RfTo B w p S s (.bool false)) := by
  have HR := Lib.hid (rright_any num 2 w)
  rw [hr] at HR
  have H := Lib.hid h
  clear h hr
  go_enter Try.func29, Try.ntmps29
  go_wp2_with (go_at_call 46; refine HR.out.mono ?_; rintro e w' ⟨rfl, rfl⟩)
  go_ret
  exact ⟨rfl, S, H.out, fun _ hk => .inl hk, Touch.refl _ _⟩
end Go.Proofs.Ytnhaeapkncnimaa

/- The document's writer: Close. Conditions: those that each theorem names. -/
namespace Go.Proofs.Ytnhaeapkncnimaa
open Go.RowKit
open Go.Lib (uvarint)
set_option linter.unusedVariables false
set_option maxRecDepth 100000

theorem rclose_no {B p : Nat} {S : Nat → Prop} {s : Rs} {w : World} (h : Rf B w p S s) (hn : s.nums = []) :
    Calls Try.prog 30 #[.pointer (some ⟨p, 0, none⟩)] w (RfTo B w p S s (.bool false)) := by
  have H := Lib.hid h
  obtain ⟨vp, vn, vs, hat⟩ := h
  obtain ⟨An, cn, hvn, y1, y2, _, _⟩ := own_form hat.nums
  subst hvn
  have c1 := obj_cell hat.obj 1
  rw [hn] at c1
  clear hat hn
  go_enter Try.func30, Try.ntmps30
  go_wp2
  go_ret
  exact ⟨rfl, S, H.out, fun _ hk => .inl hk, Touch.refl _ _⟩

set_option maxHeartbeats 400000 in
theorem rclose_any {B p : Nat} {S : Nat → Prop} {s : Rs} {w : World} (h : Rf B w p S s) {init : List (List UInt8)} {pen last : List UInt8} {ns : List Int} {num : Int} (hp : s.parts = init ++ [pen, last]) (hn : s.nums = ns ++ [num]) (hl : ns.length = init.length)
    (hr : rightB num 2 = true) (hla : last.length ≤ 140737488351232) (hpe : pen.length + (uvarint (tagN num 2) ++ (uvarint last.length ++ last)).length ≤ 140737488355328) (hil : init.length ≤ 1099511627776) :
    Calls Try.prog 30 #[.pointer (some ⟨p, 0, none⟩)] w (RfTo B w p S ⟨init ++ [pen ++ (uvarint (tagN num 2) ++ (uvarint last.length ++ last))], ns⟩ (.bool true)) := by
  obtain ⟨vp, vn, vs, hat⟩ := h
  have hpl : s.parts.length = init.length + 1 + 1 := by rw [hp]; simp
  have hnl : s.nums.length = init.length + 1 := by rw [hn]; simp [hl]
  obtain ⟨gp, cp, hvp, x1, x2, x3, x4⟩ := own_pos hat.row (by omega)
  obtain ⟨gn, cn, hvn, y1, y2, y3, y4⟩ := own_pos hat.nums (by omega)
  subst hvp hvn
  obtain ⟨K, hK⟩ : ∃ K, K = init.length := ⟨_, rfl⟩
  obtain ⟨v, hv⟩ : ∃ v, vs[K + 1]? = some v := ⟨_, List.getElem?_eq_getElem (by have := hat.row.1; omega)⟩
  obtain ⟨Al, cl, hve, hbl, hal⟩ := hat.part (K + 1) v last hv (by rw [hp, List.getElem?_append_right (by omega), hK, Nat.add_sub_cancel_left]; rfl)
  subst hve
  have q1 : w.cell? ⟨gp, K + 1, none⟩ = some (.slice Al last.length cl) := own_cell hat.row (g := gp) rfl hv
  obtain ⟨L, hLL⟩ : ∃ L, L = last.length := ⟨_, rfl⟩
  rw [← hLL] at q1
  have HLL := Lib.hid hLL
  clear hLL
  have q2 : w.cell? ⟨gn, K, none⟩ = some (.int .i64 num) := own_cell hat.nums (g := gn) rfl (by rw [hn, numsRow_append, List.getElem?_append_right (by simp [numsRow]; omega)]; simp [numsRow, hl, hK])
  have hpb : p < w.heap.size := (hat.lt p hat.sp).2
  have c0 := obj_cell hat.obj 0
  have c1 := obj_cell hat.obj 1
  have f0 := obj_free hat.obj 0
  have f1 := obj_free hat.obj 1
  rw [hpl, hnl, ← hK] at c0 c1
  rw [hpl, ← hK] at x2
  rw [hnl, ← hK] at y2
  unfold maxLen at x3 y3
  rw [← hK] at hil
  have k1 : IntKind.i64.wrap ((K : Int) + 1 - 1) = (K : Int) := by rw [show (K : Int) + 1 - 1 = (K : Int) by omega]; exact IntWalk.i64_in _ (by omega)
  have HAT := Lib.hid hat
  have HP := Lib.hid hp
  have HN := Lib.hid hn
  have HK := Lib.hid hK
  have HL := Lib.hid hl
  have HPL := Lib.hid hpl
  have HNL := Lib.hid hnl
  have HBL := Lib.hid hbl
  have HAL := Lib.hid hal
  have HR := Lib.hid hr
  have HLA := Lib.hid hla
  have HPE := Lib.hid hpe
  clear hat hp hn hK hl hpl hnl hbl hal hr hla hpe hv
  go_enter Try.func30, Try.ntmps30
  go_wp2
  go_quiet (fail)
  obtain ⟨wq, hwq⟩ : ∃ wq, wq = w.drewN nq := ⟨_, rfl⟩
  have hbq : Below w.heap.size w wq := hwq ▸ drew_below w nq
  rw [← hwq]
  clear hwq
  have hatq : RfAt B wq p S s _ _ vs := HAT.out.keep (fun k hk => hbq.block k (HAT.out.lt k hk).2) hbq.size
  obtain ⟨S1, r1, r2, r3⟩ := rf_take hatq (k := K + 1) (by have := HPL.out; have := HK.out; omega)
  rw [HPL.out] at hatq
  have ho := own_take r1.nums (k := K) (by show _ ≤ s.nums.length; have := HNL.out; have := HK.out; omega)
  have e1 : (numsRow (Rs.nums ⟨s.parts.take (K + 1), s.nums⟩)).take (K * 1) = numsRow ns := by
    show (numsRow s.nums).take (K * 1) = _
    rw [HN.out, numsRow_append, Nat.mul_one, List.take_append_of_le_length (by simp [numsRow]; have := HL.out; have := HK.out; omega), List.take_of_length_le (by simp [numsRow]; have := HL.out; have := HK.out; omega)]
  rw [e1] at ho
  obtain ⟨S2, s1, s2, s3⟩ := rf_nums r1 (nums2 := ns) (Below.refl _ _) (World.grownBy.refl _ _) (v2 := .slice (some ⟨gn, 0, none⟩) K cn) (.inl rfl) (by rw [show ns.length = K by rw [HL.out, HK.out]]; exact ho)
  have e2 : s.parts.take (K + 1) = init ++ [pen] := by
    rw [HP.out, HK.out, show init ++ [pen, last] = (init ++ [pen]) ++ [last] by simp, List.take_left' (by simp)]
  rw [e2] at s1
  have c0q := obj_cell hatq.obj 0
  have f0q := obj_free hatq.obj 0
  have c1q := obj_cell r1.obj 1
  have f1q := obj_free r1.obj 1
  rw [← HK.out] at c0q
  have e3 : (Rs.nums ⟨s.parts.take (K + 1), s.nums⟩).length = K + 1 := by show s.nums.length = _; rw [HNL.out, ← HK.out]
  rw [HNL.out, ← HK.out] at c1q
  have hb4 : Bs ((wq.setCell ⟨p, 0, none⟩ (.slice (some ⟨gp, 0, none⟩) (K + 1) cp)).setCell ⟨p, 1, none⟩ (.slice (some ⟨gn, 0, none⟩) K cn)) Al cl last := by
    refine Bs.heap HBL.out (fun a ea => ?_)
    have ha := HAL.out a ea
    have hw := (HAT.out.lt _ ha.1).2
    exact (heap_setCell_other _ ⟨p, 1, none⟩ _ _ ha.2.1).trans ((heap_setCell_other _ ⟨p, 0, none⟩ _ _ ha.2.1).trans (hbq.block _ hw))
  have g1 := run_string_bytes (P := Try.prog) hb4 Try.underlying38 Try.underlying5 Try.underlying9
  rw [← HLL.out] at g1
  have HS := Lib.hid s1
  have HQ := Lib.hid (And.intro (And.intro r2 r3) (And.intro s2 s3))
  have HBQ := Lib.hid hbq
  clear hatq r1 r2 r3 ho e1 s1 s2 s3 e2 e3 hb4 hbq c0 c1 f0 f1 q1 q2
  go_upto_region 7 with (fail)
  obtain ⟨w4, hw4⟩ : ∃ w4, w4 = (wq.setCell ⟨p, 0, none⟩ (.slice (some ⟨gp, 0, none⟩) (K + 1) cp)).setCell ⟨p, 1, none⟩ (.slice (some ⟨gn, 0, none⟩) K cn) := ⟨_, rfl⟩
  rw [← hw4] at g1 HS HQ ⊢
  have HR4 : Hid (Rf B w4 p S2 ⟨init ++ [pen], ns⟩) := Lib.hid ⟨_, _, _, HS.out⟩
  obtain ⟨U, hU⟩ : ∃ U, U = uvarint (tagN num 2) ++ (uvarint last.length ++ last) := ⟨_, rfl⟩
  have HY := rbytes_2 num 0 last w4 HR.out HLA.out
  rw [← hU] at HY HPE ⊢
  have HU := Lib.hid hU
  clear hw4 hU HS HR HLA HLL c0q f0q c1q f1q
  go_wp2_with (first
    | (go_at_call 47; refine HY.mono ?_; rintro e w1 ⟨v1, n1, rfl, ho1, hb1⟩; obtain ⟨hn1, A1, cap1, hv1, hB1⟩ := Bs.own ho1; subst hv1; have HB1 := Lib.hid hB1; have HBE := Lib.hid hb1; clear ho1 hb1 hB1 hn1)
    | (go_at_call 31; refine (rplain_any (HR4.out.bel HBE.out) (init := init) (last := pen) rfl HB1.out rfl HPE.out (by rw [← HK.out]; exact hil)).mono ?_; rintro e w2 ⟨⟨v2, rfl⟩, hq⟩; have HQ2 := Lib.hid hq; clear hq))
  go_ret
  obtain ⟨⟨r2, r3⟩, s2, s3⟩ := HQ.out
  obtain ⟨S3, z1, z2, z3⟩ := HQ2.out
  have hq1 : ∀ k, S1 k → S k ∨ w.heap.size ≤ k := fun k h => (r2 k h).imp id (fun h => Nat.le_trans HBQ.out.size h)
  have hq2 : ∀ k, S2 k → S k ∨ w.heap.size ≤ k := fun k h => (s2 k h).elim (hq1 k) (fun h => .inr (by have := HBQ.out.size; have := r3.size; omega))
  have t4 : Touch S w w1 := (((Touch.of_below S HBQ.out).trans r3 (fun _ h => .inl h)).trans s3 hq1).then_below HBE.out
  exact ⟨rfl, S3, by rw [← HU.out]; exact z1, fun k hk => (z2 k hk).elim (hq2 k) (fun h => .inr (Nat.le_trans t4.size h)), t4.trans z3 hq2⟩
end Go.Proofs.Ytnhaeapkncnimaa

/- The document's writer: Len. Conditions: those that each theorem names. -/
namespace Go.Proofs.Ytnhaeapkncnimaa
open Go.RowKit
set_option linter.unusedVariables false
set_option maxRecDepth 100000

set_option maxHeartbeats 1000000 in
theorem rlen_any {B p : Nat} {S : Nat → Prop} {s : Rs} {w : World} (h : Rf B w p S s) (hb : s.parts.flatten.length ≤ 140737488355328) :
    Calls Try.prog 12 #[.pointer (some ⟨p, 0, none⟩)] w fun e w' => e = .returned (.int .i64 (s.parts.flatten.length : Nat)) ∧ w = w' := by
  obtain ⟨vp, vn, vs, hat⟩ := h
  obtain ⟨A, cap, hvp, x1, x2, x3, _⟩ := own_form hat.row
  subst hvp
  have c0 := obj_cell hat.obj 0
  obtain ⟨n, hn⟩ : ∃ n, n = s.parts.length := ⟨_, rfl⟩
  rw [← hn] at c0 x1 x3
  unfold maxLen at x2
  have hget : ∀ k, k < n → ∃ bs Aj cj g, s.parts[k]? = some bs ∧ A = some ⟨g, 0, none⟩ ∧ w.cell? ⟨g, k, none⟩ = some (.slice Aj bs.length cj) := fun k hk => by
    obtain ⟨bs, hbs⟩ : ∃ bs, s.parts[k]? = some bs := ⟨_, List.getElem?_eq_getElem (by omega)⟩
    obtain ⟨v, hv⟩ : ∃ v, vs[k]? = some v := ⟨_, List.getElem?_eq_getElem (by have := hat.row.1; omega)⟩
    obtain ⟨Aj, cj, he, _, _⟩ := hat.part k v bs hv hbs
    obtain ⟨g, cp, hvp, _, _, _, _⟩ := own_pos hat.row (by omega)
    injection hvp with e1 e2 e3
    subst he
    exact ⟨bs, Aj, cj, g, hbs, e1, own_cell hat.row (g := g) (by rw [e1]; rfl) hv⟩
  obtain ⟨T, hT⟩ : ∃ T, T = s.parts.flatten.length := ⟨_, rfl⟩
  have hlen : ∀ k, (s.parts.take k).flatten.length ≤ T := fun k => by rw [hT]; exact flat_len_le s.parts k
  rw [← hT] at hb ⊢
  have HG := Lib.hid hget
  have HL := Lib.hid hlen
  have HN := Lib.hid hn
  have HT := Lib.hid hT
  clear hget hlen hn hT hat
  go_enter Try.func12, Try.ntmps12
  go_wp2
  go_loop [3, 4] (fun t x => ∃ k : Nat, k ≤ n ∧ x = .int .i64 (k : Int) ∧ t = .int .i64 (((s.parts.take k).flatten.length : Nat) : Int)) (fun _ x => n - (intOf x).toNat)
  case atStart => exact ⟨0, Nat.zero_le _, rfl, by simp⟩
  case round =>
    obtain ⟨k, hk, rfl, rfl⟩ := hrel
    by_cases hlt : k < n
    · have g1 : decide ((k : Int) < (n : Int)) = true := decide_eq_true (by omega)
      obtain ⟨pc, Aj, cj, g, hpc, rfl, hc⟩ := HG.out k hlt
      have h1 := HL.out (k + 1)
      rw [flat_snoc hpc, List.length_append] at h1
      have HPC := Lib.hid hpc
      obtain ⟨L, hL⟩ : ∃ L, L = (s.parts.take k).flatten.length := ⟨_, rfl⟩
      obtain ⟨M, hM⟩ : ∃ M, M = pc.length := ⟨_, rfl⟩
      rw [← hL] at h1 ⊢
      rw [← hM] at h1 hc
      have HLL := Lib.hid hL
      have HMM := Lib.hid hM
      clear hpc hL hM
      go_wp2
      go_round
      case rel => exact ⟨k + 1, by omega, by go_num, by rw [flat_snoc HPC.out, List.length_append, ← HLL.out, ← HMM.out]; go_num⟩
      case measure => simp [intOf]; omega
    · have g1 : decide ((k : Int) < (n : Int)) = false := decide_eq_false (by omega)
      have hTk : (s.parts.take k).flatten.length = T := by rw [HT.out, show k = s.parts.length by have := HN.out; omega, List.take_length]
      rw [hTk]
      clear hTk
      go_wp2
      go_ret
      exact ⟨rfl, rfl⟩
end Go.Proofs.Ytnhaeapkncnimaa

/- The writer and the document's writer side by side in memory. Conditions: those that each theorem names. -/
namespace Go.Proofs.Ytnhaeapkncnimaa
open Go.RowKit
open Go.Lib (uvarint)
set_option linter.unusedVariables false

/-- Both, with no block of the one in the other. -/
def Two (B : Nat) (w : World) (p q : Nat) (s : Ws) (m : Rs) : Prop :=
  ∃ S T, Wr B w p S true s ∧ Rf B w q T m ∧ ∀ k, S k → ¬ T k
section
variable {B p q : Nat} {S T : Nat → Prop} {s s' : Ws} {m m' : Rs} {w w' : World}
theorem two_wr (h : Wr B w p S true s) (k : Rf B w q T m) (hd : ∀ k, S k → ¬ T k) {v : Value} {e : Ending} (ht : WrTo B w p S true s' v e w') (hB : B ≤ w.heap.size) : e = .returned v ∧ Two B w' p q s' m ∧ Below B w w' := by
  obtain ⟨he, S', h1, h2, h3⟩ := ht
  exact ⟨he, ⟨S', T, h1, k.apart h3 (fun i hi hs => hd i hs hi), fun i hi => (h2 i hi).elim (hd i) (fun hge ht => by have := (k.lt i ht).2; omega)⟩, h3.below hB (fun i hi => (h.lt i hi).1)⟩
theorem two_rf (h : Wr B w p S true s) (k : Rf B w q T m) (hd : ∀ k, S k → ¬ T k) {v : Value} {e : Ending} (ht : RfTo B w q T m' v e w') (hB : B ≤ w.heap.size) : e = .returned v ∧ Two B w' p q s m' ∧ Below B w w' := by
  obtain ⟨he, T', h1, h2, h3⟩ := ht
  exact ⟨he, ⟨S, T', h.apart h3 (fun i hi ht => hd i hi ht), h1, fun i hi ht => (h2 i ht).elim (hd i hi) (fun hge => by have := (h.lt i hi).2; omega)⟩, h3.below hB (fun i hi => (k.lt i hi).1)⟩
theorem two_bel (h : Two B w p q s m) (hb : Below w.heap.size w w') : Two B w' p q s m := by
  obtain ⟨S, T, h1, h2, h3⟩ := h
  exact ⟨S, T, h1.bel hb, h2.bel hb, h3⟩
end
/-- Both, and a block that is in neither, as it is. -/
def TwoX (B : Nat) (w : World) (p q b : Nat) (o : Option Obj) (s : Ws) (m : Rs) : Prop :=
  ∃ S T, Wr B w p S true s ∧ Rf B w q T m ∧ (∀ k, S k → ¬ T k) ∧ (¬ S b ∧ ¬ T b) ∧ w.heap[b]? = o ∧ b < w.heap.size
section
variable {B p q b : Nat} {o : Option Obj} {S T : Nat → Prop} {s s' : Ws} {m m' : Rs} {w w' : World}
theorem TwoX.two (h : TwoX B w p q b o s m) : Two B w p q s m := by
  obtain ⟨S, T, h1, h2, h3, _⟩ := h
  exact ⟨S, T, h1, h2, h3⟩
theorem twox_wr (h : Wr B w p S true s) (k : Rf B w q T m) (hd : ∀ k, S k → ¬ T k) (hb : ¬ S b ∧ ¬ T b) (ho : w.heap[b]? = o) (hl : b < w.heap.size) {v : Value} {e : Ending} (ht : WrTo B w p S true s' v e w') (hB : B ≤ w.heap.size) : e = .returned v ∧ TwoX B w' p q b o s' m ∧ Below B w w' := by
  obtain ⟨he, S', h1, h2, h3⟩ := ht
  exact ⟨he, ⟨S', T, h1, k.apart h3 (fun i hi hs => hd i hs hi), fun i hi => (h2 i hi).elim (hd i) (fun hge ht => by have := (k.lt i ht).2; omega), ⟨fun hs => (h2 b hs).elim hb.1 (fun hge => by omega), hb.2⟩, (h3.block b hl hb.1).trans ho, Nat.lt_of_lt_of_le hl h3.size⟩, h3.below hB (fun i hi => (h.lt i hi).1)⟩
theorem twox_rf (h : Wr B w p S true s) (k : Rf B w q T m) (hd : ∀ k, S k → ¬ T k) (hb : ¬ S b ∧ ¬ T b) (ho : w.heap[b]? = o) (hl : b < w.heap.size) {v : Value} {e : Ending} (ht : RfTo B w q T m' v e w') (hB : B ≤ w.heap.size) : e = .returned v ∧ TwoX B w' p q b o s m' ∧ Below B w w' := by
  obtain ⟨he, T', h1, h2, h3⟩ := ht
  exact ⟨he, ⟨S, T', h.apart h3 (fun i hi ht => hd i hi ht), h1, fun i hi ht => (h2 i ht).elim (hd i hi) (fun hge => by have := (h.lt i hi).2; omega), ⟨hb.1, fun hs => (h2 b hs).elim hb.2 (fun hge => by omega)⟩, (h3.block b hl hb.2).trans ho, Nat.lt_of_lt_of_le hl h3.size⟩, h3.below hB (fun i hi => (k.lt i hi).1)⟩
/-- A new block beside both. -/
theorem two_box (h : Two B w p q s m) (o : Obj) : TwoX B (w.alloc o) p q w.heap.size (some o) s m := by
  obtain ⟨S, T, h1, h2, h3⟩ := h
  have hb := (Below.refl w.heap.size w).alloc (Nat.le_refl _) o
  exact ⟨S, T, h1.bel hb, h2.bel hb, h3, ⟨fun h => Nat.lt_irrefl _ (h1.lt _ h).2, fun h => Nat.lt_irrefl _ (h2.lt _ h).2⟩, heap_alloc_new w o, by simp⟩
end
end Go.Proofs.Ytnhaeapkncnimaa

/- The acts that came in, light. Conditions: those that each theorem names. -/
namespace Go.Proofs.Ytnhaeapkncnimaa
open Go.RowKit
set_option linter.unusedVariables false
set_option maxRecDepth 100000

structure Ac where
  what : Int
  num : Int
  n : Nat
  s : List UInt8
/-- The acts lie here. -/
structure Acts (w : World) (A : Option Addr) (cap : Nat) (l : List Ac) : Prop where
  le : l.length ≤ cap
  max : cap ≤ 9223372036854775807
  at_ : ∀ (j : Nat) a, l[j]? = some a → ∃ g off, A = some ⟨g, off, none⟩ ∧ w.cell? ⟨g, off + j * 4, none⟩ = some (.int .i64 a.what) ∧ w.cell? ⟨g, off + j * 4 + 1, none⟩ = some (.int .i64 a.num) ∧ w.cell? ⟨g, off + j * 4 + 2, none⟩ = some (.int .u64 (a.n : Int)) ∧ w.cell? ⟨g, off + j * 4 + 3, none⟩ = some (.string (strOf a.s))
def lightB (l : List Ac) : Bool := (l.take 60).all (fun a => decide (a.s.length ≤ 300)) && decide (l.length ≤ 50)

def IsLight (w : World) (n : Nat) (l : List Ac) (e : Ending) (w' : World) : Prop := ∃ b, e = .returned (.bool b) ∧ (b = true → n ≤ 50 ∧ ∀ a ∈ l, a.s.length ≤ 300) ∧ w = w'
set_option maxHeartbeats 400000 in
theorem light_any {w : World} {A : Option Addr} {cap : Nat} {l : List Ac} (h : Acts w A cap l) :
    Calls Try.prog 6 #[.slice A l.length cap] w (IsLight w l.length l) := by
  have hle := h.le
  have hmx := h.max
  have H := Lib.hid h
  obtain ⟨n, hn⟩ : ∃ n, n = l.length := ⟨_, rfl⟩
  rw [← hn] at hle ⊢
  have HN := Lib.hid hn
  clear h hn
  go_enter Try.func6, Try.ntmps6
  go_wp2
  go_loop [3] (fun x => ∃ k : Nat, k ≤ n ∧ k ≤ 60 ∧ x = .int .i64 (k : Int) ∧ ∀ j a, j < k → l[j]? = some a → a.s.length ≤ 300) (fun x => n - (intOf x).toNat)
  case atStart => exact ⟨0, Nat.zero_le _, Nat.zero_le _, rfl, fun j a hj => absurd hj (Nat.not_lt_zero _)⟩
  case round =>
    obtain ⟨k, hk, hk6, rfl, hall⟩ := hrel
    have HALL := Lib.hid hall
    clear hall
    by_cases hlt : k < n
    · have g1 : decide ((k : Int) < (n : Int)) = true := decide_eq_true (by omega)
      by_cases h60 : k < 60
      · have g2 : decide ((k : Int) < 60) = true := decide_eq_true (by omega)
        obtain ⟨a, ha⟩ : ∃ a, l[k]? = some a := ⟨_, List.getElem?_eq_getElem (by have := HN.out; omega)⟩
        obtain ⟨g, off, rfl, _, _, _, hc⟩ := H.out.at_ k a ha
        obtain ⟨t, ht⟩ : ∃ t, t = strOf a.s := ⟨_, rfl⟩
        have hsz : t.size = a.s.length := by rw [ht]; show a.s.toArray.size = _; simp
        rw [← ht] at hc
        have HA := Lib.hid ha
        have HSZ := Lib.hid hsz
        clear ha ht hsz
        by_cases hs : t.size ≤ 300
        · have g3 : decide ((t.size : Int) > 300) = false := decide_eq_false (by omega)
          go_wp2
          go_round
          case rel =>
            refine ⟨k + 1, by omega, by omega, by go_num, fun j b hj hb => ?_⟩
            by_cases hjk : j < k
            · exact HALL.out j b hjk hb
            · have : j = k := by omega
              subst this
              have := HA.out.symm.trans hb
              injection this with this
              subst this
              have := HSZ.out
              omega
          case measure => simp [intOf]; omega
        · have g3 : decide ((t.size : Int) > 300) = true := decide_eq_true (by omega)
          go_wp2
          go_ret
          exact ⟨false, rfl, (fun e => by cases e), rfl⟩
      · have g2 : decide ((k : Int) < 60) = false := decide_eq_false (by omega)
        have g4 : decide ((n : Int) ≤ 50) = false := decide_eq_false (by omega)
        go_wp2
        go_ret
        exact ⟨false, rfl, (fun e => by cases e), rfl⟩
    · have g1 : decide ((k : Int) < (n : Int)) = false := decide_eq_false (by omega)
      go_wp2
      go_ret
      refine ⟨decide ((n : Int) ≤ 50), rfl, fun e => ?_, rfl⟩
      have := of_decide_eq_true e
      refine ⟨by omega, fun a ha => ?_⟩
      obtain ⟨j, hj⟩ := List.getElem?_of_mem ha
      exact HALL.out j a (by have := (List.getElem?_eq_some_iff.mp hj).1; have := HN.out; omega) hj
end Go.Proofs.Ytnhaeapkncnimaa
