/- Several texts in one: RemC, EmLike, EmShut. What each proves, and its conditions, stands at its own head. -/
import Derived.Test.YtnhaeapkncnimaaPkR19
import Derived.Test.YtnhaeapkncnimaaPkR35
import Derived.Test.YtnhaeapkncnimaaPkR27
import Derived.Deep.CutRange
import Derived.Deep.RegionLaw
import Derived.Deep.RegionHeld3
import Derived.Test.YtnhaeapkncnimaaPkR5
import Derived.Test.YtnhaeapkncnimaaPkR38
import Derived.Test.YtnhaeapkncnimaaPkR2
/- The document's writer: New, Plain, Field, Open, Close, Len. Conditions: those that each theorem names. -/
namespace Go.Proofs.Ytnhaeapkncnimaa
open Go.RowKit
open Go.Lib (uvarint)
set_option linter.unusedVariables false
set_option maxRecDepth 100000

section
variable {B p : Nat} {S : Nat → Prop} {s : Rs} {vp vn : Value} {vs : List Value} {w w2 : World}
/-- Another part in a part's place. -/
theorem rf_set (h : RfAt B w p S s vp vn vs) (hb : Below w.heap.size w w2) {g k : Nat} (hg : vp.ownBlock = some g) (hk : k < s.parts.length) {A : Option Addr} {n cap : Nat} {bs : List UInt8} (hB : Bs w2 A cap bs) (hn : n = bs.length) (hA : ∀ a, A = some a → w.heap.size ≤ a.block ∧ a.block < w2.heap.size) :
    ∃ S', RfAt B (w2.setCell ⟨g, k, none⟩ (.slice A n cap)) p S' ⟨s.parts.set k bs, s.nums⟩ vp vn (vs.set k (.slice A n cap)) ∧ (∀ i, S' i → S i ∨ w.heap.size ≤ i) ∧ Touch S w (w2.setCell ⟨g, k, none⟩ (.slice A n cap)) := by
  subst hn
  have h2 : RfAt B w2 p S s vp vn vs := h.keep (fun i hi => hb.block i (h.lt i hi).2) hb.size
  have hlt := fun i hi => (h.lt i hi).2
  have hvl : vs.length = s.parts.length := by have := h.row.1; omega
  have hne : ∀ i, i ≠ g → (w2.setCell ⟨g, k, none⟩ (.slice A bs.length cap)).heap[i]? = w2.heap[i]? := fun i hi => heap_setCell_other w2 ⟨g, k, none⟩ i _ hi
  have hpg : p ≠ g := fun e => own_other h.row h.obj (by decide) (e ▸ hg)
  have hsz : (w2.setCell ⟨g, k, none⟩ (.slice A bs.length cap)).heap.size = w2.heap.size := by simp [World.setCell]
  refine ⟨Since S w (w2.setCell ⟨g, k, none⟩ (.slice A bs.length cap)), ⟨(hne p hpg).trans h2.obj, by rw [List.length_set]; exact own_set h2.row hg (by omega) _, own_block h2.nums (fun i e => hne i (fun e' => own_own h.nums h.row (by decide) hg (e' ▸ e))), fun j v b hv hb' => ?_, .inl h.sp, fun i e => .inl (h.sv i e), fun i e => .inl (h.sn i e), fun i hi => ?_⟩, since_of, (Touch.of_below S hb).set (q := ⟨g, k, none⟩) (.inl (h.sv g hg)) _⟩
  · rw [List.getElem?_set] at hv hb'
    split at hv
    · rename_i e
      subst e
      rw [if_pos rfl, if_pos hk] at hb'
      rw [if_pos (by omega)] at hv
      cases hv
      cases hb'
      refine ⟨A, cap, rfl, Bs.heap hB (fun a ha => hne _ (fun e => by have := (hA a ha).1; have := hlt g (h.sv g hg); omega)), fun a ha => ⟨.inr ⟨(hA a ha).1, by rw [hsz]; exact (hA a ha).2⟩, fun e => ?_, fun e => ?_, fun e => ?_⟩⟩
      · have := (hA a ha).1; have := hlt p h.sp; omega
      · have := (hA a ha).1; have := hlt _ (h.sv _ e); omega
      · have := (hA a ha).1; have := hlt _ (h.sn _ e); omega
    · rename_i e
      rw [if_neg e] at hb'
      obtain ⟨A', c', e1, hB', ha'⟩ := h2.part j v b hv hb'
      exact ⟨A', c', e1, Bs.heap hB' (fun a ha => hne _ (fun e2 => (ha' a ha).2.2.1 (e2 ▸ hg))), fun a ha => ⟨.inl (ha' a ha).1, (ha' a ha).2⟩⟩
  · rcases hi with hi | hi
    · exact ⟨(h.lt i hi).1, by rw [hsz]; have := (h.lt i hi).2; have := hb.size; omega⟩
    · exact ⟨by have := h.lt p h.sp; omega, hi.2⟩
end

def Rs.plain (s : Rs) (init : List (List UInt8)) (last b : List UInt8) : Rs := ⟨init ++ [last ++ b], s.nums⟩
def RFrom (B : Nat) (w : World) (p : Nat) (S : Nat → Prop) (s : Rs) (wx : World) : Prop := ∃ S', Rf B wx p S' s ∧ (∀ k, S' k → S k ∨ w.heap.size ≤ k) ∧ Touch S w wx
/-- What a call that answers nothing leaves. -/
def RfDone (B : Nat) (w : World) (p : Nat) (S : Nat → Prop) (s : Rs) (e : Ending) (w' : World) : Prop := (∃ v, e = .returned v) ∧ RFrom B w p S s w'

set_option maxHeartbeats 2000000 in
theorem rplain_any {B p : Nat} {S : Nat → Prop} {s : Rs} {w : World} (h : Rf B w p S s) {init : List (List UInt8)} {last b : List UInt8} (hp : s.parts = init ++ [last]) {Ab : Option Addr} {nb cb : Nat} (hb : Bs w Ab cb b) (hn : nb = b.length) (h47 : last.length + b.length ≤ 140737488355328) (hil : init.length ≤ 1099511627776) :
    Calls Try.prog 31 #[.pointer (some ⟨p, 0, none⟩), .slice Ab nb cb] w (RfDone B w p S (s.plain init last b)) := by
  obtain ⟨i0, hi, hz0, hz1, hz2⟩ := info_parts info_u8
  obtain ⟨vp, vn, vs, hat⟩ := h
  have hpl : s.parts.length = init.length + 1 := by rw [hp]; simp
  obtain ⟨g, cp, hvp, x1, x2, x3, x4⟩ := own_pos hat.row (by omega)
  subst hvp
  obtain ⟨k, hk⟩ : ∃ k, k = init.length := ⟨_, rfl⟩
  obtain ⟨v, hv⟩ : ∃ v, vs[k]? = some v := ⟨_, List.getElem?_eq_getElem (by have := hat.row.1; omega)⟩
  obtain ⟨Al, cl, hve, hbl, hal⟩ := hat.part k v last hv (by rw [hp, List.getElem?_append_right (by omega), hk, Nat.sub_self]; rfl)
  subst hve
  have c0 := obj_cell hat.obj 0
  have q1 : w.cell? ⟨g, k, none⟩ = some (.slice Al last.length cl) := own_cell hat.row (g := g) rfl hv
  have q2 : w.frozen? ⟨g, k, none⟩ = false := own_free hat.row (g := g) rfl k
  rw [hpl, ← hk] at c0 x2
  unfold maxLen at x3
  obtain ⟨L, hL⟩ : ∃ L, L = last.length := ⟨_, rfl⟩
  rw [← hL] at q1
  rw [← hk] at hil
  have hpb : p < w.heap.size := (hat.lt p hat.sp).2
  have HAT := Lib.hid hat
  have HP := Lib.hid hp
  have HK := Lib.hid hk
  have HL := Lib.hid hL
  have HBL := Lib.hid hbl
  have HB := Lib.hid hb
  have HN := Lib.hid hn
  have HPL := Lib.hid hpl
  clear hat hp hk hL hbl hal hb hn hpl hv
  have HCC : Hid (∀ w', Below w.heap.size w w' → w'.cell? ⟨p, 0, none⟩ = some (.slice (some ⟨g, 0, none⟩) (k + 1) cp) ∧ w'.cell? ⟨g, k, none⟩ = some (.slice Al L cl) ∧ w'.frozen? ⟨g, k, none⟩ = false) :=
    fun w' hb' => ⟨(hb'.cell (p := ⟨p, 0, none⟩) hpb).trans c0, (hb'.cell (p := ⟨g, k, none⟩) x4).trans q1, (hb'.frozen (p := ⟨g, k, none⟩) x4).trans q2⟩
  go_enter Try.func31, Try.ntmps31
  go_wp2
  have b0 : Below w.heap.size w w := Below.refl _ _
  have hkk : (k : Int) < (k : Int) + 1 := by omega
  have r := (HCC.out _ b0).1
  have TOK := Lib.hid hil
  obtain ⟨M, hM⟩ : ∃ M, M = last.length + b.length := ⟨_, rfl⟩
  have HM := Lib.hid hM
  clear hM
  go_region_law
    (first
    | (refine step_append_bs (by rfl) _ _ (by rfl) (base := w.heap.size) (pre := []) (by rfl) (by have tok := TOK.out; exact own0 w.drew) (by rfl) ((HBL.out.drew).alloc _) HL.out (by simp; omega) (by simp) ?_; clear TOK; intro v1 w1 ho1 hg1; have hbA1 : Below w.heap.size w w1 := (b0.drew.alloc (Nat.le_refl _) _).grown hg1 (by simp) (fun j e => by cases e; exact Nat.le_refl _); have r1 := (HCC.out _ hbA1).1; have HO1 := Lib.hid ho1; clear ho1 hg1)
    | (refine step_append_bs (by rfl) _ _ (by rfl) (base := w.heap.size) (pre := [] ++ last) (by rfl) HO1.out (by rfl) (HB.out.below hbA1 (Nat.le_refl _)) HN.out (by simp; omega) hbA1.size ?_; intro v2 w2 ho2 hg2; have hbA2 : Below w.heap.size w w2 := hbA1.grown hg2 hbA1.size (fun j e => (HO1.out.lt j e).1); obtain ⟨A2, cap2, hv2, _, _, _, _⟩ := own_form ho2; subst hv2; have r4 := (HCC.out _ hbA2).1; have r2 := (HCC.out _ hbA2).2.1; have r3 := (HCC.out _ hbA2).2.2; have HO2 := Lib.hid ho2; clear ho2 hg2))
  all_goals go_wp2
  all_goals
    go_end0
    obtain ⟨_, A9, c9, e9, hB9⟩ := Bs.own HO2.out
    injection e9 with e1 e2 e3
    subst e1 e3
    obtain ⟨S', z1, z2, z3⟩ := rf_set HAT.out hbA2 (g := g) (k := k) (A := A2) (n := ([] ++ last).length + b.length) (cap := cap2) (bs := [] ++ last ++ b) rfl (by have := HPL.out; have := HK.out; omega) hB9 (by simp) (fun a ha => HO2.out.lt a.block (by rw [ha]; rfl))
    have e4 : s.parts.set k ([] ++ last ++ b) = init ++ [last ++ b] := by rw [HP.out, HK.out, List.set_append_right _ _ (Nat.le_refl _), Nat.sub_self]; simp
    rw [e4] at z1
    exact ⟨⟨_, rfl⟩, S', ⟨_, _, _, z1⟩, z2, z3⟩
end Go.Proofs.Ytnhaeapkncnimaa

/- Plain words (no program here): the writer and the document's say the same. -/
namespace Go.Proofs.Ytnhaeapkncnimaa
open Go.Lib (uvarint)
set_option linter.unusedVariables false

/-- The writer's pieces in groups: what lies before the first open frame, and what lies in each. -/
structure Like (s : Ws) (m : Rs) (gs : List (List (List UInt8))) : Prop where
  asc : Asc s.raw.length s.fs
  room : s.room = headSum s.fs
  none_ : s.op = [] → s.fs = []
  flat : gs.flatten = alls s.raw s.fs
  parts : m.parts = gs.map List.flatten
  len : gs.length = s.op.length + 1
  nums : m.nums.length = s.op.length
  fr : ∀ (j o : Nat), s.op[j]? = some o → ∃ num f, m.nums[j]? = some num ∧ s.fs[o]? = some f ∧ f.head = [] ∧ f.tag = tagN num 2 ∧ rightB num 2 = true ∧ f.before = (m.parts.take (j + 1)).flatten.length ∧ o + 1 = (gs.take (j + 1)).flatten.length
  ne : ∀ g, g ∈ gs → g ≠ []
theorem like_new : Like ⟨[], [], [], 0⟩ ⟨[[]], []⟩ [[[]]] :=
  ⟨trivial, rfl, fun _ => rfl, rfl, rfl, rfl, rfl, (fun j o h => by simp at h), fun g hg => by simp at hg; simp [hg]⟩
theorem flat_map (gs : List (List (List UInt8))) : (gs.map List.flatten).flatten = gs.flatten.flatten := by
  induction gs with
  | nil => rfl
  | cons g gs ih => simp [ih]
section
variable {s : Ws} {m : Rs} {gs : List (List (List UInt8))}
theorem Like.total (h : Like s m gs) : s.raw.length + s.room = m.parts.flatten.length := by
  rw [h.parts, flat_map, h.flat, alls_total h.asc, h.room]
theorem Like.bytes (h : Like s m gs) (ho : s.op = []) : m.parts = [s.raw] := by
  have hl := h.len
  have hf := h.flat
  rw [h.none_ ho] at hf
  rw [ho] at hl
  match gs, hl, hf, h.parts with
  | [g], _, hf, hp =>
    simp [alls, nextP, pieces] at hf
    rw [hp, hf]
    simp
/-- The last group, and its last piece. -/
theorem Like.last (h : Like s m gs) : ∃ G g x, gs = G ++ [g ++ [x]] ∧ G.length = s.op.length := by
  have hl := h.len
  obtain ⟨G, g, rfl⟩ : ∃ G g, gs = G ++ [g] := ⟨gs.dropLast, gs.getLast (by intro e; rw [e] at hl; simp at hl), (List.dropLast_concat_getLast _).symm⟩
  have hG : G.length = s.op.length := by simpa using hl
  have hne : g ≠ [] := by
    intro e
    subst e
    have hf := congrArg List.length h.flat
    rw [alls_length] at hf
    simp only [List.flatten_append, List.flatten_cons, List.flatten_nil, List.append_nil] at hf
    rcases hop : s.op.length with _ | k
    · rw [hop] at hG
      rw [List.eq_nil_of_length_eq_zero hG] at hf
      simp at hf
    · obtain ⟨o, ho⟩ : ∃ o, s.op[k]? = some o := ⟨_, List.getElem?_eq_getElem (by omega)⟩
      obtain ⟨num, f, _, hfo, _, _, _, _, hq⟩ := h.fr k o ho
      rw [List.take_append_of_le_length (by omega), List.take_of_length_le (by omega)] at hq
      have := (List.getElem?_eq_some_iff.mp hfo).1
      omega
  exact ⟨G, g.dropLast, g.getLast hne, by rw [List.dropLast_concat_getLast], hG⟩
theorem Like.plain (h : Like s m gs) (b : List UInt8) : ∃ gs' init last, m.parts = init ++ [last] ∧ init.length = s.op.length ∧ Like (s.plain b) (m.plain init last b) gs' := by
  obtain ⟨G, g, x, rfl, hG⟩ := h.last
  obtain ⟨i, l, e1, e2⟩ := alls_more b h.asc
  have hf := h.flat
  rw [e1] at hf
  have hf2 : (G.flatten ++ g) ++ [x] = i ++ [l] := by rw [← hf]; simp
  obtain ⟨hi, hl⟩ := List.append_inj' hf2 rfl
  injection hl with hl
  subst hi hl
  have hp : m.parts = G.map List.flatten ++ [(g ++ [x]).flatten] := by rw [h.parts]; simp
  refine ⟨G ++ [g ++ [x ++ b]], G.map List.flatten, (g ++ [x]).flatten, hp, by simpa using hG, ⟨?_, h.room, h.none_, ?_, ?_, ?_, h.nums, fun j o ho => ?_, fun q hq => ?_⟩⟩
  · show Asc (s.raw ++ b).length s.fs
    rw [List.length_append]
    exact asc_more _ h.asc
  · show _ = alls (s.raw ++ b) s.fs
    rw [e2]; simp
  · show _ ++ [_] = _
    simp
  · show _ = s.op.length + 1
    simpa using h.len
  · obtain ⟨num, f, a1, a2, a3, a4, a5, a6, a7⟩ := h.fr j o ho
    have hj : j < s.op.length := (List.getElem?_eq_some_iff.mp ho).1
    refine ⟨num, f, a1, a2, a3, a4, a5, ?_, ?_⟩
    · rw [a6, hp]
      show _ = ((G.map List.flatten ++ [_]).take (j + 1)).flatten.length
      rw [List.take_append_of_le_length (by simp; omega), List.take_append_of_le_length (by simp; omega)]
    · rw [a7, List.take_append_of_le_length (by omega), List.take_append_of_le_length (by omega)]
  · rcases List.mem_append.mp hq with hq | hq
    · exact h.ne q (List.mem_append_left _ hq)
    · simp at hq; simp [hq]
theorem Like.opens (h : Like s m gs) (num : Int) (hr : rightB num 2 = true) : Like (s.opens num) ⟨m.parts ++ [[]], m.nums ++ [num]⟩ (gs ++ [[[]]]) := by
  have e : s.opens num = ⟨s.raw, s.fs ++ [⟨tagN num 2, s.raw.length, s.raw.length + s.room, []⟩], s.op ++ [s.fs.length], s.room⟩ := by unfold Ws.opens; rw [if_pos hr]
  have hpl : m.parts.length = s.op.length + 1 := by rw [h.parts, List.length_map, h.len]
  rw [e]
  refine ⟨asc_snoc (f := ⟨tagN num 2, s.raw.length, s.raw.length + s.room, []⟩) rfl h.asc, ?_, fun ho => by simp at ho, ?_, ?_, ?_, ?_, fun j o ho => ?_, fun q hq => ?_⟩
  · show s.room = headSum (s.fs ++ _)
    rw [headSum_append, h.room]; simp [headSum]
  · show _ = alls s.raw (s.fs ++ _)
    rw [alls_snoc (f := ⟨tagN num 2, s.raw.length, s.raw.length + s.room, []⟩) rfl rfl, ← h.flat]; simp
  · show m.parts ++ [[]] = _
    rw [h.parts]; simp
  · simp [h.len]
  · simp [h.nums]
  · change (s.op ++ [s.fs.length])[j]? = some o at ho
    by_cases hj : j < s.op.length
    · rw [List.getElem?_append_left hj] at ho
      obtain ⟨num', f, a1, a2, a3, a4, a5, a6, a7⟩ := h.fr j o ho
      have hof := (List.getElem?_eq_some_iff.mp a2).1
      refine ⟨num', f, (List.getElem?_append_left (by have := h.nums; omega)).trans a1, (List.getElem?_append_left hof).trans a2, a3, a4, a5, ?_, ?_⟩
      · show f.before = ((m.parts ++ [[]]).take (j + 1)).flatten.length
        rw [a6, List.take_append_of_le_length (by omega)]
      · rw [a7, List.take_append_of_le_length (by have := h.len; omega)]
    · rw [List.getElem?_append_right (by omega)] at ho
      cases hjj : j - s.op.length with
      | succ i => rw [hjj] at ho; simp at ho
      | zero =>
        rw [hjj] at ho
        simp at ho
        subst ho
        have hj' : j = s.op.length := by omega
        subst hj'
        refine ⟨num, ⟨tagN num 2, s.raw.length, s.raw.length + s.room, []⟩, ?_, ?_, rfl, rfl, hr, ?_, ?_⟩
        · show (m.nums ++ [num])[s.op.length]? = _
          rw [List.getElem?_append_right (by have := h.nums; omega), h.nums, Nat.sub_self]; rfl
        · show (s.fs ++ [_])[s.fs.length]? = _
          rw [List.getElem?_append_right (Nat.le_refl _), Nat.sub_self]; rfl
        · show s.raw.length + s.room = ((m.parts ++ [[]]).take (s.op.length + 1)).flatten.length
          rw [List.take_append_of_le_length (by omega), List.take_of_length_le (by omega), h.total]
        · rw [List.take_append_of_le_length (by have := h.len; omega), List.take_of_length_le (by have := h.len; omega), h.flat, alls_length]
  · rcases List.mem_append.mp hq with hq | hq
    · exact h.ne q hq
    · simp at hq; simp [hq]
end
end Go.Proofs.Ytnhaeapkncnimaa

/- Plain words (no program here): Close of the writer and of the document's. -/
namespace Go.Proofs.Ytnhaeapkncnimaa
open Go.Lib (uvarint)
set_option linter.unusedVariables false

theorem Like.close {s : Ws} {m : Rs} {gs : List (List (List UInt8))} (h : Like s m gs) (hop : s.op ≠ []) :
    ∃ init o f ini pen last ns num gs', s.op = init ++ [o] ∧ s.fs[o]? = some f ∧ f.tag = tagN num 2 ∧ f.before ≤ s.raw.length + s.room ∧ Asc s.raw.length (s.shut1 init o f).fs ∧ (s.shut1 init o f).room = headSum (s.shut1 init o f).fs ∧
      m.parts = ini ++ [pen, last] ∧ m.nums = ns ++ [num] ∧ ns.length = ini.length ∧ rightB num 2 = true ∧ ini.length = init.length ∧
      Like (s.shut init o f) ⟨ini ++ [pen ++ (uvarint (tagN num 2) ++ (uvarint last.length ++ last))], ns⟩ gs' := by
  obtain ⟨init, o, hio⟩ : ∃ init o, s.op = init ++ [o] := ⟨s.op.dropLast, s.op.getLast hop, (List.dropLast_concat_getLast _).symm⟩
  have hol : s.op.length = init.length + 1 := by rw [hio]; simp
  obtain ⟨ns, num, hns⟩ : ∃ ns num, m.nums = ns ++ [num] := ⟨m.nums.dropLast, m.nums.getLast (by intro e; have := h.nums; rw [e] at this; simp at this; omega), (List.dropLast_concat_getLast _).symm⟩
  have hnl : ns.length = init.length := by have := h.nums; rw [hns, hol] at this; simpa using this
  obtain ⟨G', g, x, hgs, hG'⟩ := h.last
  obtain ⟨G, g1, rfl⟩ : ∃ G g1, G' = G ++ [g1] := ⟨G'.dropLast, G'.getLast (by intro e; rw [e] at hG'; simp at hG'; omega), (List.dropLast_concat_getLast _).symm⟩
  have hG : G.length = init.length := by rw [hol] at hG'; simpa using hG'
  obtain ⟨gl, hgl⟩ : ∃ gl, gl = g ++ [x] := ⟨_, rfl⟩
  rw [← hgl] at hgs
  subst hgs
  obtain ⟨num', f, a1, a2, a3, a4, a5, a6, a7⟩ := h.fr init.length o (by rw [hio, List.getElem?_append_right (Nat.le_refl _), Nat.sub_self]; rfl)
  have hnn : num' = num := by rw [hns, List.getElem?_append_right (by omega), hnl, Nat.sub_self] at a1; simpa using a1.symm
  subst hnn
  have hp : m.parts = G.map List.flatten ++ [g1.flatten, gl.flatten] := by rw [h.parts]; simp
  have htk : (G ++ [g1] ++ [gl]).take (init.length + 1) = G ++ [g1] := by
    rw [List.take_append_of_le_length (by simp [hG]), List.take_of_length_le (by simp [hG])]
  rw [htk] at a7
  have htot := h.total
  have hbl : f.before + gl.flatten.length = s.raw.length + s.room := by
    rw [a6, htot, hp]
    have : (G.map List.flatten ++ [g1.flatten, gl.flatten]).take (init.length + 1) = G.map List.flatten ++ [g1.flatten] := by
      rw [show G.map List.flatten ++ [g1.flatten, gl.flatten] = (G.map List.flatten ++ [g1.flatten]) ++ [gl.flatten] by simp, List.take_append_of_le_length (by simp [hG]), List.take_of_length_le (by simp [hG])]
    rw [this]
    simp
    omega
  obtain ⟨hd, hhd⟩ : ∃ hd, hd = f.headAt (s.raw.length + s.room) := ⟨_, rfl⟩
  have hhd2 : hd = uvarint (tagN num' 2) ++ uvarint gl.flatten.length := by
    rw [hhd, Fr.headAt, a4, show s.raw.length + s.room - f.before = gl.flatten.length by omega]
  obtain ⟨a, y, b, e1, e2, e3⟩ := alls_set (raw := s.raw) (g := f.headed hd) a2 a3 rfl
  have hf := h.flat
  rw [e1] at hf
  obtain ⟨h1, h2⟩ := List.append_inj (show (G ++ [g1]).flatten ++ gl = a ++ y :: b by rw [← hf]; simp) (by omega)
  have hasc : Asc s.raw.length (s.fs.set o (f.headed hd)) := asc_set o a2 rfl h.asc
  have hroom : s.room + hd.length = headSum (s.fs.set o (f.headed hd)) := by rw [headSum_set _ _ a2 a3, h.room]; rfl
  have hnew : alls s.raw (s.fs.set o (f.headed hd)) = (G ++ [g1]).flatten ++ ((hd ++ y) :: b) := by rw [e3, h1]; rfl
  have hpart : (g1 ++ ((hd ++ y) :: b)).flatten = g1.flatten ++ (uvarint (tagN num' 2) ++ (uvarint gl.flatten.length ++ gl.flatten)) := by
    have hx : ((hd ++ y) :: b).flatten = hd ++ gl.flatten := by rw [h2]; simp
    rw [List.flatten_append, hx, hhd2]; simp
  have hshut1 : s.shut1 init o f = ⟨s.raw, s.fs.set o (f.headed hd), init, s.room + hd.length⟩ := by rw [Ws.shut1, hhd]
  have hrest : ∃ gs', Like (s.shut init o f) ⟨G.map List.flatten ++ [g1.flatten ++ (uvarint (tagN num' 2) ++ (uvarint gl.flatten.length ++ gl.flatten))], ns⟩ gs' := by
    unfold Ws.shut
    rw [hshut1]
    by_cases hin : init = []
    · rw [if_pos hin]
      have hG0 : G = [] := List.eq_nil_of_length_eq_zero (by rw [hG, hin]; rfl)
      have hn0 : ns = [] := List.eq_nil_of_length_eq_zero (by rw [hnl, hin]; rfl)
      have hraw : s.raw.take (nextP s.raw.length (s.fs.set o (f.headed hd))) ++ laid s.raw (s.fs.set o (f.headed hd)) = g1.flatten ++ (uvarint (tagN num' 2) ++ (uvarint gl.flatten.length ++ gl.flatten)) := by
        rw [← alls_flat, hnew, hG0, ← hpart]; simp
      unfold Ws.lay
      rw [hraw, hG0, hn0, hin]
      refine ⟨[[g1.flatten ++ (uvarint (tagN num' 2) ++ (uvarint gl.flatten.length ++ gl.flatten))]], ⟨trivial, rfl, fun _ => rfl, ?_, ?_, rfl, rfl, (fun j o h => by simp at h), fun q hq => by simp at hq; simp [hq]⟩⟩
      · rw [alls, pieces, nextP, List.take_length]; rfl
      · simp
    · rw [if_neg hin]
      refine ⟨G ++ [g1 ++ ((hd ++ y) :: b)], ⟨hasc, hroom, fun e => absurd e hin, ?_, ?_, by simp [hG], hnl, fun j oj hj => ?_, fun q hq => ?_⟩⟩
      · show _ = alls s.raw (s.fs.set o (f.headed hd))
        rw [hnew]; simp
      · show _ ++ [_] = _
        rw [List.map_append, List.map_cons, List.map_nil, hpart]
      · change init[j]? = some oj at hj
        have hjl : j < init.length := (List.getElem?_eq_some_iff.mp hj).1
        obtain ⟨nj, fj, b1, b2, b3, b4, b5, b6, b7⟩ := h.fr j oj (by rw [hio, List.getElem?_append_left hjl]; exact hj)
        have htj : (G ++ [g1] ++ [gl]).take (j + 1) = G.take (j + 1) := by
          rw [List.take_append_of_le_length (by simp; omega), List.take_append_of_le_length (by omega)]
        have hne : o ≠ oj := by
          intro e
          rw [htj, ← e] at b7
          rw [b7] at a7
          have : (G.take (j + 1)).flatten.length ≤ G.flatten.length := by
            conv => rhs; rw [← List.take_append_drop (j + 1) G]
            rw [List.flatten_append, List.length_append]; omega
          have hg1 := List.length_pos_iff.mpr (h.ne g1 (by simp))
          simp only [List.flatten_append, List.length_append, List.flatten_cons, List.flatten_nil, List.length_nil, Nat.add_zero] at a7
          omega
        refine ⟨nj, fj, ?_, ?_, b3, b4, b5, ?_, ?_⟩
        · rw [hns, List.getElem?_append_left (by omega)] at b1; exact b1
        · show (s.fs.set o _)[oj]? = _
          rw [List.getElem?_set_ne hne]; exact b2
        · show fj.before = ((G.map List.flatten ++ [_]).take (j + 1)).flatten.length
          rw [b6, hp, List.take_append_of_le_length (by simp; omega), List.take_append_of_le_length (by simp; omega)]
        · rw [b7, htj, List.take_append_of_le_length (by omega)]
      · rcases List.mem_append.mp hq with hq | hq
        · exact h.ne q (by simp [hq])
        · simp at hq; simp [hq]
  obtain ⟨gs', hlike⟩ := hrest
  exact ⟨init, o, f, G.map List.flatten, g1.flatten, gl.flatten, ns, num', gs', hio, a2, a4, by omega, by rw [hshut1]; exact hasc, by rw [hshut1]; exact hroom, hp, hns, by simp [hnl, hG], a5, by simp [hG], hlike⟩
end Go.Proofs.Ytnhaeapkncnimaa
