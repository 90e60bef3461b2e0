/- Several texts in one: LessMem. What each proves, and its conditions, stands at its own head. -/
import Derived.Test.YtpbhokmpbcmdcaaGreatDoorPkc21
import Derived.Test.YtpbhokmpbcmdcaaGreatDoorPkc23
import Derived.Laws.IdiomCopy
import Derived.Deep.Upon
import Derived.Lib.EndianMore
/- Layer 15 in memory: a list of messages of which one is taken out in place, by append of what is behind it to what is ahead of it. Conditions: those that each theorem names. -/
namespace Go.Proofs.YtpbhokmpbcmdcaaGreatDoor
open Go.RowKit
set_option linter.unusedVariables false
set_option maxRecDepth 100000

theorem sum_erase (l : List Ms) (f : Ms → Nat) (i : Nat) : ((l.eraseIdx i).map f).sum ≤ (l.map f).sum := by
  induction l generalizing i with
  | nil => simp
  | cons a r ih =>
    cases i with
    | zero => simp
    | succ i =>
      have := ih i
      simp only [List.eraseIdx_cons_succ, List.map_cons, List.sum_cons]
      omega
theorem less_small {s : Sc} {i : Nat} (h : smallT s = true) : smallT (lessT s i) = true := by
  unfold smallT at h ⊢
  rw [Bool.and_eq_true, Bool.and_eq_true] at h ⊢
  obtain ⟨h1, h2, h3⟩ := h
  refine ⟨?_, h2, ?_⟩
  · have h4 := of_decide_eq_true h1
    apply decide_eq_true
    unfold weigh at h4 ⊢
    have k1 := sum_erase s.msgs weighM i
    have k2 : (lessT s i).msgs.length ≤ s.msgs.length := by
      show (s.msgs.eraseIdx i).length ≤ _
      exact (List.eraseIdx_sublist s.msgs i).length_le
    have k3 : ((lessT s i).msgs.map weighM).sum ≤ (s.msgs.map weighM).sum := k1
    have k4 : (lessT s i).enums = s.enums := rfl
    rw [k4]
    omega
  · rw [Bool.not_eq_true'] at h3 ⊢
    exact less_any h3
theorem less_ok {s : Sc} {i : Nat} (h : ScOk s) : ScOk (lessT s i) := by
  obtain ⟨h1, h2, h3, h4⟩ := h
  refine ⟨h1, Nat.le_trans (List.eraseIdx_sublist s.msgs i).length_le h2, h3, fun m hm => h4 m (less_sub hm)⟩

/-- A row written to in place stays a row of its kind. -/
theorem setCells_kind {g : Nat} {t : TypeId} : ∀ (vs : List Value) (o : Nat) (w : World) (cs : Array Value), w.heap[g]? = some (.cells cs t (0, 0)) → ∃ cs', (w.setCells g o vs).heap[g]? = some (.cells cs' t (0, 0))
  | [], _, _, cs, h => ⟨cs, h⟩
  | v :: r, o, w, cs, h => setCells_kind r (o + 1) _ _ (obj_set h o v)

theorem oneCell_ms {S : Nat → Nat → Prop} {w : World} {cs : List Value} {x : Ms} (h : msR S w cs x) : ∀ u ∈ cs, u.oneCell' = true := by
  obtain ⟨A, c, A2, c2, rfl, _, _⟩ := h
  intro u hu
  simp at hu
  rcases hu with rfl | rfl | rfl <;> rfl
theorem enR_part {S T : Nat → Nat → Prop} {w w' : World} {cs : List Value} {x : En} (hS : ∀ g, S 0 g → T 0 g) (hk : ∀ p : Addr, S 0 p.block → p.block < w.heap.size → w'.cell? p = w.cell? p) (h : enR S w cs x) : enR T w' cs x := by
  obtain ⟨A, c, e, h⟩ := h
  exact ⟨A, c, e, lst_keep h vlR_keep hS hk⟩
theorem msR_part {S T : Nat → Nat → Prop} {w w' : World} {cs : List Value} {x : Ms} (hS : ∀ k g, k < 3 → S k g → T k g) (hk : ∀ k (p : Addr), k < 3 → S k p.block → p.block < w.heap.size → w'.cell? p = w.cell? p) (h : msR S w cs x) : msR T w' cs x := by
  obtain ⟨A, c, A2, c2, e, h, h2⟩ := h
  exact ⟨A, c, A2, c2, e, lst_keep h fdR_keep (fun g => hS 1 g (by omega)) (fun p => hk 1 p (by omega)), lst_keep h2 inR_keep (fun g => hS 2 g (by omega)) (fun p => hk 2 p (by omega))⟩

/-- The message i is taken out. -/
theorem sc_less {S : Nat → Nat → Prop} {w : World} {base top g off m cb m2 cb2 i : Nat} {B : Option Addr} {s : Sc} (h : ScAt S w B m cb (some ⟨g, off, none⟩) m2 cb2 s) (hS : ∀ k b, S k b → Typed base w k b) (htop : ∀ k b, S k b → b < top) (hi : i < m2) :
    base ≤ g ∧ g < top ∧ ∃ news : List Value, news.length = (m2 - (i + 1)) * 3 ∧ (∀ (j : Nat) (u : Value), news[j]? = some u → w.cell? ⟨g, off + (i + 1) * 3 + j, none⟩ = some u) ∧ (∀ u ∈ news, u.oneCell' = true) ∧
      (∀ j, j < news.length → (w.cell? ⟨g, off + i * 3 + j, none⟩).isSome = true ∧ w.frozen? ⟨g, off + i * 3 + j, none⟩ = false) ∧
      ScAt (fun _ b => b < top) (w.setCells g (off + i * 3) news) B m cb (some ⟨g, off, none⟩) (m2 - 1) cb2 (lessT s i) := by
  have hlen := h.s_nm
  have hi' : i < s.msgs.length := by omega
  have hone := h.s_m.l_at i _ (List.getElem?_eq_getElem hi')
  obtain ⟨g0, off0, cs0, e0, hS0, _, _, _⟩ := hone
  injection e0 with e0
  injection e0 with e1 e2
  subst e1 e2
  obtain ⟨hbase, row, hrow⟩ := hS _ _ hS0
  have each : ∀ j, j < m2 → ∃ cs : List Value, cs.length = 3 ∧ (∃ x, s.msgs[j]? = some x ∧ msR S w cs x) ∧ ∀ (t : Nat) (u : Value), cs[t]? = some u → w.cell? ⟨g, off + j * 3 + t, none⟩ = some u := by
    intro j hj
    have hj' : j < s.msgs.length := by omega
    obtain ⟨g1, o1, cs, e, _, h1, h2, h3⟩ := h.s_m.l_at j _ (List.getElem?_eq_getElem hj')
    injection e with e
    injection e with e1 e2
    subst e1 e2
    exact ⟨cs, h1, ⟨_, List.getElem?_eq_getElem hj', h2⟩, h3⟩
  obtain ⟨q, hq⟩ := Deep.choose_lt each
  obtain ⟨news, hnews⟩ : ∃ news : List Value, news = ((List.range (m2 - (i + 1))).flatMap fun t => if i + 1 + t < m2 then q (i + 1 + t) else [.bool false, .bool false, .bool false]) := ⟨_, rfl⟩
  have hf3 : ∀ t, (if i + 1 + t < m2 then q (i + 1 + t) else [.bool false, .bool false, .bool false] : List Value).length = 3 := by
    intro t
    split
    · exact (hq _ (by assumption)).1
    · rfl
  have hnl : news.length = (m2 - (i + 1)) * 3 := by
    rw [hnews, flat_length _ 3 hf3, List.length_range]
  have hget : ∀ (a t : Nat), t < 3 → i + 1 + a < m2 → news[3 * a + t]? = (q (i + 1 + a))[t]? := by
    intro a t ht ha
    rw [hnews, flat_get _ 3 hf3 _ a a t (by rw [List.getElem?_range (by omega)]) ht, if_pos ha]
  have hcell : ∀ (j : Nat) (u : Value), news[j]? = some u → w.cell? ⟨g, off + (i + 1) * 3 + j, none⟩ = some u := by
    intro j u hu
    have hj := (List.getElem?_eq_some_iff.mp hu).1
    rw [hnl] at hj
    have ha : i + 1 + j / 3 < m2 := by omega
    have e := hget (j / 3) (j % 3) (by omega) ha
    rw [show 3 * (j / 3) + j % 3 = j by omega, hu] at e
    have := (hq _ ha).2.2 (j % 3) u e.symm
    rwa [show off + (i + 1 + j / 3) * 3 + j % 3 = off + (i + 1) * 3 + j by omega] at this
  have hspare : ∀ j, j < news.length → (w.cell? ⟨g, off + i * 3 + j, none⟩).isSome = true ∧ w.frozen? ⟨g, off + i * 3 + j, none⟩ = false := by
    intro j hj
    rw [hnl] at hj
    have ha : i + j / 3 < m2 := by omega
    obtain ⟨hl, _, hc⟩ := hq _ ha
    have := hc (j % 3) _ (List.getElem?_eq_getElem (by omega))
    rw [show off + (i + j / 3) * 3 + j % 3 = off + i * 3 + j by omega] at this
    exact ⟨by rw [this]; rfl, obj_free hrow _⟩
  have hother : ∀ b, b < w.heap.size → b ≠ g → (w.setCells g (off + i * 3) news).heap[b]? = w.heap[b]? := fun b hlt hb => World.heap_setCells_other w g _ _ hlt hb
  have hne : ∀ k b, k < 4 → S k b → b ≠ g := by
    intro k b hk hb e
    subst e
    obtain ⟨_, cs1, h1⟩ := hS _ _ hb
    rw [hrow] at h1
    injection h1 with h1
    injection h1 with _ h2
    match k, hk, h2 with
    | 0, _, h2 => exact absurd h2 (by decide)
    | 1, _, h2 => exact absurd h2 (by decide)
    | 2, _, h2 => exact absurd h2 (by decide)
    | 3, _, h2 => exact absurd h2 (by decide)
  have hkeep : ∀ k (p : Addr), k < 4 → S k p.block → p.block < w.heap.size → (w.setCells g (off + i * 3) news).cell? p = w.cell? p := fun k p hk hp hlt => World.cell?_of_block (hother p.block hlt (hne k _ hk hp))
  refine ⟨hbase, htop _ _ hS0, news, hnl, hcell, fun u hu => ?_, hspare, ?_, ?_, h.s_ne, ?_⟩
  · rw [hnews] at hu
    obtain ⟨t, ht, hu⟩ := List.mem_flatMap.mp hu
    split at hu
    · obtain ⟨_, ⟨x, _, hx⟩, _⟩ := hq _ (by assumption)
      exact oneCell_ms hx u hu
    · simp at hu; subst hu; rfl
  · exact lst_keep h.s_e (fun cs x hx => enR_part (fun b hb => htop 0 b hb) (fun p => hkeep 0 p (by omega)) hx) (fun b hb => htop 3 b hb) (fun p => hkeep 3 p (by omega))
  · have hms : ∀ cs x, msR S w cs x → msR (fun _ b => b < top) (w.setCells g (off + i * 3) news) cs x := fun cs x hx => msR_part (fun k b _ hb => htop k b hb) (fun k p hk => hkeep k p (by omega)) hx
    have hel : (lessT s i).msgs.length = m2 - 1 := by
      show (s.msgs.eraseIdx i).length = _
      rw [List.length_eraseIdx_of_lt hi', ← hlen]
    refine ⟨by have := h.s_m.l_le; omega, h.s_m.l_max, (fun e => by cases e), fun j x hj => ?_⟩
    have hjl := (List.getElem?_eq_some_iff.mp hj).1
    rw [hel] at hjl
    have hj2 : (s.msgs.eraseIdx i)[j]? = some x := hj
    rw [List.getElem?_eraseIdx] at hj2
    by_cases hji : j < i
    · rw [if_pos hji] at hj2
      obtain ⟨hl, ⟨y, hy, hR⟩, hc⟩ := hq j (by omega)
      rw [hj2] at hy
      injection hy with hy
      subst hy
      refine ⟨g, off, q j, rfl, htop _ _ hS0, hl, hms _ _ hR, fun t u hu => ?_⟩
      have ht := (List.getElem?_eq_some_iff.mp hu).1
      rw [World.cell?_setCells_out g _ _ _ _ (fun _ _ => ?_)]
      · exact hc t u hu
      · left; show off + j * 3 + t < off + i * 3; omega
    · rw [if_neg hji] at hj2
      obtain ⟨hl, ⟨y, hy, hR⟩, hc⟩ := hq (j + 1) (by omega)
      rw [hj2] at hy
      injection hy with hy
      subst hy
      refine ⟨g, off, q (j + 1), rfl, htop _ _ hS0, hl, hms _ _ hR, fun t u hu => ?_⟩
      have ht := (List.getElem?_eq_some_iff.mp hu).1
      have hin := World.cell?_setCells_in g news (off + i * 3) w (fun k hk => (hspare k hk).1) ((j - i) * 3 + t) (by rw [hnl]; omega)
      rw [show off + i * 3 + ((j - i) * 3 + t) = off + j * 3 + t by omega] at hin
      rw [hin]
      have e := hget (j - i) t (by omega) (by omega)
      rw [show i + 1 + (j - i) = j + 1 by omega, hu, show 3 * (j - i) + t = (j - i) * 3 + t by omega] at e
      obtain ⟨_, e2⟩ := List.getElem?_eq_some_iff.mp e
      rw [e2]
  · show m2 - 1 = (s.msgs.eraseIdx i).length
    rw [List.length_eraseIdx_of_lt hi', ← hlen]
end Go.Proofs.YtpbhokmpbcmdcaaGreatDoor
