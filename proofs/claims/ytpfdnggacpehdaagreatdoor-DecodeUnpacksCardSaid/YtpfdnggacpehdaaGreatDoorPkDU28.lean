/- Several texts in one: CurB. What each proves, and its conditions, stands at its own head. -/
import Derived.Test.YtpfdnggacpehdaaGreatDoorPkDU25
import Derived.Shelf.Abstract
import Derived.Deep.RegionHeld3
/- Reading by a function that is handed on, whatever it is: what read does where there is a frame, and where there is none. -/
namespace Go.Proofs.YtpfdnggacpehdaaGreatDoor
open Go.RowKit
set_option linter.unusedVariables false
set_option maxRecDepth 100000

/-- The cells of a cursor that failed. -/
def zeroC : Array Value := #[.slice none 0 0, .int .i64 0, .slice none 0 0]
/-- What a read leaves: m: how many bytes it took; 0: it failed. -/
def ReadEnd (p : Nat) (z v vb ve : Value) (i m : Nat) (Q : World → Prop) (e : Ending) (w' : World) : Prop :=
  ∃ w1, Q w1 ∧ Only p p w1 w' ∧ (m = 0 → e = .returned z ∧ w'.heap[p]? = some (.cells zeroC 109 (0, 0))) ∧
    (m ≠ 0 → e = .returned v ∧ w'.heap[p]? = some (.cells #[vb, .int .i64 ((i + m : Nat) : Int), ve] 109 (0, 0)))
theorem read_end_some {p : Nat} {z v vb ve : Value} {i m : Nat} {Q : World → Prop} {w1 : World} {x : Int} (hm : m ≠ 0) (hx : x = ((i + m : Nat) : Int)) (hq : Q w1) (h : w1.heap[p]? = some (.cells #[vb, .int .i64 (i : Int), ve] 109 (0, 0))) :
    ReadEnd p z v vb ve i m Q (.returned v) (w1.setCell ⟨p, 1, none⟩ (.int .i64 x)) := by
  subst hx
  refine ⟨w1, hq, (Only.refl p p w1).set (q := ⟨p, 1, none⟩) (.inl rfl) _, fun h0 => absurd h0 hm, fun _ => ⟨rfl, ?_⟩⟩
  rw [obj_set h 1]
  rfl
theorem read_end_none {p : Nat} {z v vb ve c0 c1 c2 : Value} {i m : Nat} {Q : World → Prop} {w1 : World} (hm : m = 0) (hq : Q w1) (h : w1.heap[p]? = some (.cells #[c0, c1, c2] 109 (0, 0))) :
    ReadEnd p z v vb ve i m Q (.returned z) (((w1.setCell ⟨p, 0, none⟩ (.slice none 0 0)).setCell ⟨p, 1, none⟩ (.int .i64 0)).setCell ⟨p, 2, none⟩ (.slice none 0 0)) := by
  refine ⟨w1, hq, (((Only.refl p p w1).set (q := ⟨p, 0, none⟩) (.inl rfl) _).set (q := ⟨p, 1, none⟩) (.inl rfl) _).set (q := ⟨p, 2, none⟩) (.inl rfl) _, fun _ => ⟨rfl, ?_⟩, fun h0 => absurd hm h0⟩
  have a := obj_set h 0 (.slice none 0 0)
  have b := obj_set a 1 (.int .i64 0)
  have c := obj_set b 2 (.slice none 0 0)
  rw [c]
  rfl

set_option maxHeartbeats 800000 in
theorem read_uint64_some (p : Nat) (A : Option Addr) (len cap i g c l : Nat) (r : List Nat) (w : World) (h : w.heap[p]? = some (.cells #[.slice A len cap, .int .i64 (i : Int), .slice (some ⟨g, 0, none⟩) (r.length + 1) c] 109 (0, 0))) (hs : Stk w g c (l :: r).reverse)
    (hil : i ≤ l) (hll : l ≤ len) (hlc : len ≤ cap) (hc : cap ≤ 9223372036854775807) (k : Nat) (caps : Array Value) (henter : Enters Tryz.prog k) (v : Value) (m : Nat) (hm : i + m ≤ 9223372036854775807)
    (Q : World → Prop) (hT : ∀ n, Calls Tryz.prog k (#[.slice (if cap = i then A else A.map (·.add i)) (l - i) (cap - i)] ++ caps) (w.drewN n) fun e w' => e = .returned (.tuple #[v, .int .i64 (m : Int)]) ∧ Q w')
    (hQ : ∀ w', Q w' → w'.heap[p]? = w.heap[p]? ∧ w'.heap[g]? = w.heap[g]?) :
    Calls Tryz.prog 102 #[.pointer (some ⟨p, 0, none⟩), .func (.func k) #[] caps] w (ReadEnd p (.int .u64 0) v (.slice A len cap) (.slice (some ⟨g, 0, none⟩) (r.length + 1) c) i m Q) := by
  have h0 := obj_cell h 0
  have h1 := obj_cell h 1
  have h2 := obj_cell h 2
  have hl := hs.last
  have hk : r.length + 1 ≤ 9223372036854775807 := by have h1 := hs.le; have h2 := hs.max; simp at h1; unfold maxLen at h2; omega
  obtain ⟨k0, hk0⟩ : ∃ k0, k0 = r.length := ⟨_, rfl⟩
  have HO := Lib.hid (ok_yes p _ _ _ r.length c w h)
  have HQ : Hid (∀ w', Q w' → (w'.cell? ⟨p, 0, none⟩ = some (.slice A len cap) ∧ w'.cell? ⟨p, 1, none⟩ = some (.int .i64 (i : Int)) ∧ w'.cell? ⟨p, 2, none⟩ = some (.slice (some ⟨g, 0, none⟩) (k0 + 1) c) ∧ w'.cell? ⟨g, k0, none⟩ = some (.int .i64 (l : Int)))) := by
    intro w' q
    obtain ⟨q1, q2⟩ := hQ w' q
    have h' := q1.trans h
    exact ⟨obj_cell h' 0, obj_cell h' 1, by rw [hk0]; exact obj_cell h' 2, by rw [hk0]; exact (hs.keep q2).last⟩
  have HF : Hid (∀ w', Q w' → ∀ j, w'.frozen? ⟨p, j, none⟩ = false) := by
    intro w' q j
    exact obj_free ((hQ w' q).1.trans h) j
  have HH : Hid (∀ w', Q w' → w'.heap[p]? = some (.cells #[.slice A len cap, .int .i64 (i : Int), .slice (some ⟨g, 0, none⟩) (k0 + 1) c] 109 (0, 0))) := by
    intro w' q
    rw [hk0]
    exact (hQ w' q).1.trans h
  rw [← hk0] at h2 hl hk ⊢
  have hent : ∀ (args : Array Value) (w : World), (callFunc k args).run Tryz.prog w = .ok (.enter k args) w := henter
  have HT := Lib.hid hT
  clear hT h hs hQ henter hk0
  have hlc2 : l ≤ cap := by omega
  by_cases hci : cap = i
  · rw [if_pos hci] at HT
    have hli : cap = l := by omega
    have hlen : cap = len := by omega
    subst hci hli hlen
    simp only [Nat.sub_self] at HT
    by_cases hm0 : m = 0
    · subst hm0
      go_enter Tryz.func102, Tryz.ntmps102
      go_wp2_with (first
        | (go_at_call 40; refine HO.out.mono ?_; rintro e w' ⟨rfl, rfl⟩))
      go_region_held3 (fun w' => w'.cell? ⟨p, 0, none⟩ = some (.slice A cap cap) ∧ w'.cell? ⟨p, 1, none⟩ = some (.int .i64 (cap : Int)) ∧ w'.cell? ⟨p, 2, none⟩ = some (.slice (some ⟨g, 0, none⟩) (k0 + 1) c) ∧ w'.cell? ⟨g, k0, none⟩ = some (.int .i64 (cap : Int)))
        (first | exact ⟨h0, h1, h2, hl⟩ | exact HQ.out _ (by assumption) | go_keep)
        (first
        | (go_at_call 79; refine (end_cells p g k0 c cap _ hk (by simp [*]) (by simp [*])).mono ?_; rintro e w' ⟨rfl, n, rfl⟩)
        | (go_at_fn k; refine (HT.out _).mono ?_; rintro e w1 ⟨rfl, hq⟩))
      have hf := HF.out _ hq
      obtain ⟨q0, q1, q2, q3⟩ := HQ.out _ hq
      go_wp2
      go_ret
      exact read_end_none rfl hq (HH.out _ hq)
    · have hm1 : decide ((m : Int) = 0) = false := decide_eq_false (by omega)
      go_enter Tryz.func102, Tryz.ntmps102
      go_wp2_with (first
        | (go_at_call 40; refine HO.out.mono ?_; rintro e w' ⟨rfl, rfl⟩))
      go_region_held3 (fun w' => w'.cell? ⟨p, 0, none⟩ = some (.slice A cap cap) ∧ w'.cell? ⟨p, 1, none⟩ = some (.int .i64 (cap : Int)) ∧ w'.cell? ⟨p, 2, none⟩ = some (.slice (some ⟨g, 0, none⟩) (k0 + 1) c) ∧ w'.cell? ⟨g, k0, none⟩ = some (.int .i64 (cap : Int)))
        (first | exact ⟨h0, h1, h2, hl⟩ | exact HQ.out _ (by assumption) | go_keep)
        (first
        | (go_at_call 79; refine (end_cells p g k0 c cap _ hk (by simp [*]) (by simp [*])).mono ?_; rintro e w' ⟨rfl, n, rfl⟩)
        | (go_at_fn k; refine (HT.out _).mono ?_; rintro e w1 ⟨rfl, hq⟩))
      have hf := HF.out _ hq
      obtain ⟨q0, q1, q2, q3⟩ := HQ.out _ hq
      go_wp2
      go_ret
      exact read_end_some hm0 (by go_num) hq (HH.out _ hq)
  · rw [if_neg hci] at HT
    by_cases hm0 : m = 0
    · subst hm0
      go_enter Tryz.func102, Tryz.ntmps102
      go_wp2_with (first
        | (go_at_call 40; refine HO.out.mono ?_; rintro e w' ⟨rfl, rfl⟩))
      go_region_held3 (fun w' => w'.cell? ⟨p, 0, none⟩ = some (.slice A len cap) ∧ w'.cell? ⟨p, 1, none⟩ = some (.int .i64 (i : Int)) ∧ w'.cell? ⟨p, 2, none⟩ = some (.slice (some ⟨g, 0, none⟩) (k0 + 1) c) ∧ w'.cell? ⟨g, k0, none⟩ = some (.int .i64 (l : Int)))
        (first | exact ⟨h0, h1, h2, hl⟩ | exact HQ.out _ (by assumption) | go_keep)
        (first
        | (go_at_call 79; refine (end_cells p g k0 c l _ hk (by simp [*]) (by simp [*])).mono ?_; rintro e w' ⟨rfl, n, rfl⟩)
        | (go_at_fn k; refine (HT.out _).mono ?_; rintro e w1 ⟨rfl, hq⟩))
      have hf := HF.out _ hq
      obtain ⟨q0, q1, q2, q3⟩ := HQ.out _ hq
      go_wp2
      go_ret
      exact read_end_none rfl hq (HH.out _ hq)
    · have hm1 : decide ((m : Int) = 0) = false := decide_eq_false (by omega)
      go_enter Tryz.func102, Tryz.ntmps102
      go_wp2_with (first
        | (go_at_call 40; refine HO.out.mono ?_; rintro e w' ⟨rfl, rfl⟩))
      go_region_held3 (fun w' => w'.cell? ⟨p, 0, none⟩ = some (.slice A len cap) ∧ w'.cell? ⟨p, 1, none⟩ = some (.int .i64 (i : Int)) ∧ w'.cell? ⟨p, 2, none⟩ = some (.slice (some ⟨g, 0, none⟩) (k0 + 1) c) ∧ w'.cell? ⟨g, k0, none⟩ = some (.int .i64 (l : Int)))
        (first | exact ⟨h0, h1, h2, hl⟩ | exact HQ.out _ (by assumption) | go_keep)
        (first
        | (go_at_call 79; refine (end_cells p g k0 c l _ hk (by simp [*]) (by simp [*])).mono ?_; rintro e w' ⟨rfl, n, rfl⟩)
        | (go_at_fn k; refine (HT.out _).mono ?_; rintro e w1 ⟨rfl, hq⟩))
      have hf := HF.out _ hq
      obtain ⟨q0, q1, q2, q3⟩ := HQ.out _ hq
      go_wp2
      go_ret
      exact read_end_some hm0 (by go_num) hq (HH.out _ hq)

theorem read_uint64_none (p : Nat) (vb vp : Value) (E : Option Addr) (c : Nat) (f : Value) (w : World) (h : w.heap[p]? = some (.cells #[vb, vp, .slice E 0 c] 109 (0, 0))) :
    Calls Tryz.prog 102 #[.pointer (some ⟨p, 0, none⟩), f] w fun e w' => e = .returned (.int .u64 0) ∧ w = w' := by
  have HO := Lib.hid (ok_no p _ _ _ c w h)
  clear h
  go_enter Tryz.func102, Tryz.ntmps102
  go_wp2_with (first
    | (go_at_call 40; refine HO.out.mono ?_; rintro e w' ⟨rfl, rfl⟩))
  go_ret
  exact ⟨rfl, rfl⟩

set_option maxHeartbeats 800000 in
theorem read_uint32_some (p : Nat) (A : Option Addr) (len cap i g c l : Nat) (r : List Nat) (w : World) (h : w.heap[p]? = some (.cells #[.slice A len cap, .int .i64 (i : Int), .slice (some ⟨g, 0, none⟩) (r.length + 1) c] 109 (0, 0))) (hs : Stk w g c (l :: r).reverse)
    (hil : i ≤ l) (hll : l ≤ len) (hlc : len ≤ cap) (hc : cap ≤ 9223372036854775807) (k : Nat) (caps : Array Value) (henter : Enters Tryz.prog k) (v : Value) (m : Nat) (hm : i + m ≤ 9223372036854775807)
    (Q : World → Prop) (hT : ∀ n, Calls Tryz.prog k (#[.slice (if cap = i then A else A.map (·.add i)) (l - i) (cap - i)] ++ caps) (w.drewN n) fun e w' => e = .returned (.tuple #[v, .int .i64 (m : Int)]) ∧ Q w')
    (hQ : ∀ w', Q w' → w'.heap[p]? = w.heap[p]? ∧ w'.heap[g]? = w.heap[g]?) :
    Calls Tryz.prog 124 #[.pointer (some ⟨p, 0, none⟩), .func (.func k) #[] caps] w (ReadEnd p (.int .u32 0) v (.slice A len cap) (.slice (some ⟨g, 0, none⟩) (r.length + 1) c) i m Q) := by
  have h0 := obj_cell h 0
  have h1 := obj_cell h 1
  have h2 := obj_cell h 2
  have hl := hs.last
  have hk : r.length + 1 ≤ 9223372036854775807 := by have h1 := hs.le; have h2 := hs.max; simp at h1; unfold maxLen at h2; omega
  obtain ⟨k0, hk0⟩ : ∃ k0, k0 = r.length := ⟨_, rfl⟩
  have HO := Lib.hid (ok_yes p _ _ _ r.length c w h)
  have HQ : Hid (∀ w', Q w' → (w'.cell? ⟨p, 0, none⟩ = some (.slice A len cap) ∧ w'.cell? ⟨p, 1, none⟩ = some (.int .i64 (i : Int)) ∧ w'.cell? ⟨p, 2, none⟩ = some (.slice (some ⟨g, 0, none⟩) (k0 + 1) c) ∧ w'.cell? ⟨g, k0, none⟩ = some (.int .i64 (l : Int)))) := by
    intro w' q
    obtain ⟨q1, q2⟩ := hQ w' q
    have h' := q1.trans h
    exact ⟨obj_cell h' 0, obj_cell h' 1, by rw [hk0]; exact obj_cell h' 2, by rw [hk0]; exact (hs.keep q2).last⟩
  have HF : Hid (∀ w', Q w' → ∀ j, w'.frozen? ⟨p, j, none⟩ = false) := by
    intro w' q j
    exact obj_free ((hQ w' q).1.trans h) j
  have HH : Hid (∀ w', Q w' → w'.heap[p]? = some (.cells #[.slice A len cap, .int .i64 (i : Int), .slice (some ⟨g, 0, none⟩) (k0 + 1) c] 109 (0, 0))) := by
    intro w' q
    rw [hk0]
    exact (hQ w' q).1.trans h
  rw [← hk0] at h2 hl hk ⊢
  have hent : ∀ (args : Array Value) (w : World), (callFunc k args).run Tryz.prog w = .ok (.enter k args) w := henter
  have HT := Lib.hid hT
  clear hT h hs hQ henter hk0
  have hlc2 : l ≤ cap := by omega
  by_cases hci : cap = i
  · rw [if_pos hci] at HT
    have hli : cap = l := by omega
    have hlen : cap = len := by omega
    subst hci hli hlen
    simp only [Nat.sub_self] at HT
    by_cases hm0 : m = 0
    · subst hm0
      go_enter Tryz.func124, Tryz.ntmps124
      go_wp2_with (first
        | (go_at_call 40; refine HO.out.mono ?_; rintro e w' ⟨rfl, rfl⟩))
      go_region_held3 (fun w' => w'.cell? ⟨p, 0, none⟩ = some (.slice A cap cap) ∧ w'.cell? ⟨p, 1, none⟩ = some (.int .i64 (cap : Int)) ∧ w'.cell? ⟨p, 2, none⟩ = some (.slice (some ⟨g, 0, none⟩) (k0 + 1) c) ∧ w'.cell? ⟨g, k0, none⟩ = some (.int .i64 (cap : Int)))
        (first | exact ⟨h0, h1, h2, hl⟩ | exact HQ.out _ (by assumption) | go_keep)
        (first
        | (go_at_call 79; refine (end_cells p g k0 c cap _ hk (by simp [*]) (by simp [*])).mono ?_; rintro e w' ⟨rfl, n, rfl⟩)
        | (go_at_fn k; refine (HT.out _).mono ?_; rintro e w1 ⟨rfl, hq⟩))
      have hf := HF.out _ hq
      obtain ⟨q0, q1, q2, q3⟩ := HQ.out _ hq
      go_wp2
      go_ret
      exact read_end_none rfl hq (HH.out _ hq)
    · have hm1 : decide ((m : Int) = 0) = false := decide_eq_false (by omega)
      go_enter Tryz.func124, Tryz.ntmps124
      go_wp2_with (first
        | (go_at_call 40; refine HO.out.mono ?_; rintro e w' ⟨rfl, rfl⟩))
      go_region_held3 (fun w' => w'.cell? ⟨p, 0, none⟩ = some (.slice A cap cap) ∧ w'.cell? ⟨p, 1, none⟩ = some (.int .i64 (cap : Int)) ∧ w'.cell? ⟨p, 2, none⟩ = some (.slice (some ⟨g, 0, none⟩) (k0 + 1) c) ∧ w'.cell? ⟨g, k0, none⟩ = some (.int .i64 (cap : Int)))
        (first | exact ⟨h0, h1, h2, hl⟩ | exact HQ.out _ (by assumption) | go_keep)
        (first
        | (go_at_call 79; refine (end_cells p g k0 c cap _ hk (by simp [*]) (by simp [*])).mono ?_; rintro e w' ⟨rfl, n, rfl⟩)
        | (go_at_fn k; refine (HT.out _).mono ?_; rintro e w1 ⟨rfl, hq⟩))
      have hf := HF.out _ hq
      obtain ⟨q0, q1, q2, q3⟩ := HQ.out _ hq
      go_wp2
      go_ret
      exact read_end_some hm0 (by go_num) hq (HH.out _ hq)
  · rw [if_neg hci] at HT
    by_cases hm0 : m = 0
    · subst hm0
      go_enter Tryz.func124, Tryz.ntmps124
      go_wp2_with (first
        | (go_at_call 40; refine HO.out.mono ?_; rintro e w' ⟨rfl, rfl⟩))
      go_region_held3 (fun w' => w'.cell? ⟨p, 0, none⟩ = some (.slice A len cap) ∧ w'.cell? ⟨p, 1, none⟩ = some (.int .i64 (i : Int)) ∧ w'.cell? ⟨p, 2, none⟩ = some (.slice (some ⟨g, 0, none⟩) (k0 + 1) c) ∧ w'.cell? ⟨g, k0, none⟩ = some (.int .i64 (l : Int)))
        (first | exact ⟨h0, h1, h2, hl⟩ | exact HQ.out _ (by assumption) | go_keep)
        (first
        | (go_at_call 79; refine (end_cells p g k0 c l _ hk (by simp [*]) (by simp [*])).mono ?_; rintro e w' ⟨rfl, n, rfl⟩)
        | (go_at_fn k; refine (HT.out _).mono ?_; rintro e w1 ⟨rfl, hq⟩))
      have hf := HF.out _ hq
      obtain ⟨q0, q1, q2, q3⟩ := HQ.out _ hq
      go_wp2
      go_ret
      exact read_end_none rfl hq (HH.out _ hq)
    · have hm1 : decide ((m : Int) = 0) = false := decide_eq_false (by omega)
      go_enter Tryz.func124, Tryz.ntmps124
      go_wp2_with (first
        | (go_at_call 40; refine HO.out.mono ?_; rintro e w' ⟨rfl, rfl⟩))
      go_region_held3 (fun w' => w'.cell? ⟨p, 0, none⟩ = some (.slice A len cap) ∧ w'.cell? ⟨p, 1, none⟩ = some (.int .i64 (i : Int)) ∧ w'.cell? ⟨p, 2, none⟩ = some (.slice (some ⟨g, 0, none⟩) (k0 + 1) c) ∧ w'.cell? ⟨g, k0, none⟩ = some (.int .i64 (l : Int)))
        (first | exact ⟨h0, h1, h2, hl⟩ | exact HQ.out _ (by assumption) | go_keep)
        (first
        | (go_at_call 79; refine (end_cells p g k0 c l _ hk (by simp [*]) (by simp [*])).mono ?_; rintro e w' ⟨rfl, n, rfl⟩)
        | (go_at_fn k; refine (HT.out _).mono ?_; rintro e w1 ⟨rfl, hq⟩))
      have hf := HF.out _ hq
      obtain ⟨q0, q1, q2, q3⟩ := HQ.out _ hq
      go_wp2
      go_ret
      exact read_end_some hm0 (by go_num) hq (HH.out _ hq)

theorem read_uint32_none (p : Nat) (vb vp : Value) (E : Option Addr) (c : Nat) (f : Value) (w : World) (h : w.heap[p]? = some (.cells #[vb, vp, .slice E 0 c] 109 (0, 0))) :
    Calls Tryz.prog 124 #[.pointer (some ⟨p, 0, none⟩), f] w fun e w' => e = .returned (.int .u32 0) ∧ w = w' := by
  have HO := Lib.hid (ok_no p _ _ _ c w h)
  clear h
  go_enter Tryz.func124, Tryz.ntmps124
  go_wp2_with (first
    | (go_at_call 40; refine HO.out.mono ?_; rintro e w' ⟨rfl, rfl⟩))
  go_ret
  exact ⟨rfl, rfl⟩

set_option maxHeartbeats 800000 in
theorem read_string_some (p : Nat) (A : Option Addr) (len cap i g c l : Nat) (r : List Nat) (w : World) (h : w.heap[p]? = some (.cells #[.slice A len cap, .int .i64 (i : Int), .slice (some ⟨g, 0, none⟩) (r.length + 1) c] 109 (0, 0))) (hs : Stk w g c (l :: r).reverse)
    (hil : i ≤ l) (hll : l ≤ len) (hlc : len ≤ cap) (hc : cap ≤ 9223372036854775807) (k : Nat) (caps : Array Value) (henter : Enters Tryz.prog k) (v : Value) (m : Nat) (hm : i + m ≤ 9223372036854775807)
    (Q : World → Prop) (hT : ∀ n, Calls Tryz.prog k (#[.slice (if cap = i then A else A.map (·.add i)) (l - i) (cap - i)] ++ caps) (w.drewN n) fun e w' => e = .returned (.tuple #[v, .int .i64 (m : Int)]) ∧ Q w')
    (hQ : ∀ w', Q w' → w'.heap[p]? = w.heap[p]? ∧ w'.heap[g]? = w.heap[g]?) :
    Calls Tryz.prog 121 #[.pointer (some ⟨p, 0, none⟩), .func (.func k) #[] caps] w (ReadEnd p (.string (strOf [])) v (.slice A len cap) (.slice (some ⟨g, 0, none⟩) (r.length + 1) c) i m Q) := by
  have h0 := obj_cell h 0
  have h1 := obj_cell h 1
  have h2 := obj_cell h 2
  have hl := hs.last
  have hk : r.length + 1 ≤ 9223372036854775807 := by have h1 := hs.le; have h2 := hs.max; simp at h1; unfold maxLen at h2; omega
  obtain ⟨k0, hk0⟩ : ∃ k0, k0 = r.length := ⟨_, rfl⟩
  have HO := Lib.hid (ok_yes p _ _ _ r.length c w h)
  have HQ : Hid (∀ w', Q w' → (w'.cell? ⟨p, 0, none⟩ = some (.slice A len cap) ∧ w'.cell? ⟨p, 1, none⟩ = some (.int .i64 (i : Int)) ∧ w'.cell? ⟨p, 2, none⟩ = some (.slice (some ⟨g, 0, none⟩) (k0 + 1) c) ∧ w'.cell? ⟨g, k0, none⟩ = some (.int .i64 (l : Int)))) := by
    intro w' q
    obtain ⟨q1, q2⟩ := hQ w' q
    have h' := q1.trans h
    exact ⟨obj_cell h' 0, obj_cell h' 1, by rw [hk0]; exact obj_cell h' 2, by rw [hk0]; exact (hs.keep q2).last⟩
  have HF : Hid (∀ w', Q w' → ∀ j, w'.frozen? ⟨p, j, none⟩ = false) := by
    intro w' q j
    exact obj_free ((hQ w' q).1.trans h) j
  have HH : Hid (∀ w', Q w' → w'.heap[p]? = some (.cells #[.slice A len cap, .int .i64 (i : Int), .slice (some ⟨g, 0, none⟩) (k0 + 1) c] 109 (0, 0))) := by
    intro w' q
    rw [hk0]
    exact (hQ w' q).1.trans h
  rw [← hk0] at h2 hl hk ⊢
  have hent : ∀ (args : Array Value) (w : World), (callFunc k args).run Tryz.prog w = .ok (.enter k args) w := henter
  have HT := Lib.hid hT
  clear hT h hs hQ henter hk0
  have hlc2 : l ≤ cap := by omega
  by_cases hci : cap = i
  · rw [if_pos hci] at HT
    have hli : cap = l := by omega
    have hlen : cap = len := by omega
    subst hci hli hlen
    simp only [Nat.sub_self] at HT
    by_cases hm0 : m = 0
    · subst hm0
      go_enter Tryz.func121, Tryz.ntmps121
      go_wp2_with (first
        | (go_at_call 40; refine HO.out.mono ?_; rintro e w' ⟨rfl, rfl⟩))
      go_region_held3 (fun w' => w'.cell? ⟨p, 0, none⟩ = some (.slice A cap cap) ∧ w'.cell? ⟨p, 1, none⟩ = some (.int .i64 (cap : Int)) ∧ w'.cell? ⟨p, 2, none⟩ = some (.slice (some ⟨g, 0, none⟩) (k0 + 1) c) ∧ w'.cell? ⟨g, k0, none⟩ = some (.int .i64 (cap : Int)))
        (first | exact ⟨h0, h1, h2, hl⟩ | exact HQ.out _ (by assumption) | go_keep)
        (first
        | (go_at_call 79; refine (end_cells p g k0 c cap _ hk (by simp [*]) (by simp [*])).mono ?_; rintro e w' ⟨rfl, n, rfl⟩)
        | (go_at_fn k; refine (HT.out _).mono ?_; rintro e w1 ⟨rfl, hq⟩))
      have hf := HF.out _ hq
      obtain ⟨q0, q1, q2, q3⟩ := HQ.out _ hq
      go_wp2
      go_ret
      exact read_end_none rfl hq (HH.out _ hq)
    · have hm1 : decide ((m : Int) = 0) = false := decide_eq_false (by omega)
      go_enter Tryz.func121, Tryz.ntmps121
      go_wp2_with (first
        | (go_at_call 40; refine HO.out.mono ?_; rintro e w' ⟨rfl, rfl⟩))
      go_region_held3 (fun w' => w'.cell? ⟨p, 0, none⟩ = some (.slice A cap cap) ∧ w'.cell? ⟨p, 1, none⟩ = some (.int .i64 (cap : Int)) ∧ w'.cell? ⟨p, 2, none⟩ = some (.slice (some ⟨g, 0, none⟩) (k0 + 1) c) ∧ w'.cell? ⟨g, k0, none⟩ = some (.int .i64 (cap : Int)))
        (first | exact ⟨h0, h1, h2, hl⟩ | exact HQ.out _ (by assumption) | go_keep)
        (first
        | (go_at_call 79; refine (end_cells p g k0 c cap _ hk (by simp [*]) (by simp [*])).mono ?_; rintro e w' ⟨rfl, n, rfl⟩)
        | (go_at_fn k; refine (HT.out _).mono ?_; rintro e w1 ⟨rfl, hq⟩))
      have hf := HF.out _ hq
      obtain ⟨q0, q1, q2, q3⟩ := HQ.out _ hq
      go_wp2
      go_ret
      exact read_end_some hm0 (by go_num) hq (HH.out _ hq)
  · rw [if_neg hci] at HT
    by_cases hm0 : m = 0
    · subst hm0
      go_enter Tryz.func121, Tryz.ntmps121
      go_wp2_with (first
        | (go_at_call 40; refine HO.out.mono ?_; rintro e w' ⟨rfl, rfl⟩))
      go_region_held3 (fun w' => w'.cell? ⟨p, 0, none⟩ = some (.slice A len cap) ∧ w'.cell? ⟨p, 1, none⟩ = some (.int .i64 (i : Int)) ∧ w'.cell? ⟨p, 2, none⟩ = some (.slice (some ⟨g, 0, none⟩) (k0 + 1) c) ∧ w'.cell? ⟨g, k0, none⟩ = some (.int .i64 (l : Int)))
        (first | exact ⟨h0, h1, h2, hl⟩ | exact HQ.out _ (by assumption) | go_keep)
        (first
        | (go_at_call 79; refine (end_cells p g k0 c l _ hk (by simp [*]) (by simp [*])).mono ?_; rintro e w' ⟨rfl, n, rfl⟩)
        | (go_at_fn k; refine (HT.out _).mono ?_; rintro e w1 ⟨rfl, hq⟩))
      have hf := HF.out _ hq
      obtain ⟨q0, q1, q2, q3⟩ := HQ.out _ hq
      go_wp2
      go_ret
      exact read_end_none rfl hq (HH.out _ hq)
    · have hm1 : decide ((m : Int) = 0) = false := decide_eq_false (by omega)
      go_enter Tryz.func121, Tryz.ntmps121
      go_wp2_with (first
        | (go_at_call 40; refine HO.out.mono ?_; rintro e w' ⟨rfl, rfl⟩))
      go_region_held3 (fun w' => w'.cell? ⟨p, 0, none⟩ = some (.slice A len cap) ∧ w'.cell? ⟨p, 1, none⟩ = some (.int .i64 (i : Int)) ∧ w'.cell? ⟨p, 2, none⟩ = some (.slice (some ⟨g, 0, none⟩) (k0 + 1) c) ∧ w'.cell? ⟨g, k0, none⟩ = some (.int .i64 (l : Int)))
        (first | exact ⟨h0, h1, h2, hl⟩ | exact HQ.out _ (by assumption) | go_keep)
        (first
        | (go_at_call 79; refine (end_cells p g k0 c l _ hk (by simp [*]) (by simp [*])).mono ?_; rintro e w' ⟨rfl, n, rfl⟩)
        | (go_at_fn k; refine (HT.out _).mono ?_; rintro e w1 ⟨rfl, hq⟩))
      have hf := HF.out _ hq
      obtain ⟨q0, q1, q2, q3⟩ := HQ.out _ hq
      go_wp2
      go_ret
      exact read_end_some hm0 (by go_num) hq (HH.out _ hq)

theorem read_string_none (p : Nat) (vb vp : Value) (E : Option Addr) (c : Nat) (f : Value) (w : World) (h : w.heap[p]? = some (.cells #[vb, vp, .slice E 0 c] 109 (0, 0))) :
    Calls Tryz.prog 121 #[.pointer (some ⟨p, 0, none⟩), f] w fun e w' => e = .returned (.string (strOf [])) ∧ w = w' := by
  have HO := Lib.hid (ok_no p _ _ _ c w h)
  clear h
  go_enter Tryz.func121, Tryz.ntmps121
  go_wp2_with (first
    | (go_at_call 40; refine HO.out.mono ?_; rintro e w' ⟨rfl, rfl⟩))
  go_ret
  exact ⟨rfl, rfl⟩

set_option maxHeartbeats 800000 in
theorem read_int_some (p : Nat) (A : Option Addr) (len cap i g c l : Nat) (r : List Nat) (w : World) (h : w.heap[p]? = some (.cells #[.slice A len cap, .int .i64 (i : Int), .slice (some ⟨g, 0, none⟩) (r.length + 1) c] 109 (0, 0))) (hs : Stk w g c (l :: r).reverse)
    (hil : i ≤ l) (hll : l ≤ len) (hlc : len ≤ cap) (hc : cap ≤ 9223372036854775807) (k : Nat) (caps : Array Value) (henter : Enters Tryz.prog k) (v : Value) (m : Nat) (hm : i + m ≤ 9223372036854775807)
    (Q : World → Prop) (hT : ∀ n, Calls Tryz.prog k (#[.slice (if cap = i then A else A.map (·.add i)) (l - i) (cap - i)] ++ caps) (w.drewN n) fun e w' => e = .returned (.tuple #[v, .int .i64 (m : Int)]) ∧ Q w')
    (hQ : ∀ w', Q w' → w'.heap[p]? = w.heap[p]? ∧ w'.heap[g]? = w.heap[g]?) :
    Calls Tryz.prog 165 #[.pointer (some ⟨p, 0, none⟩), .func (.func k) #[] caps] w (ReadEnd p (.int .i64 0) v (.slice A len cap) (.slice (some ⟨g, 0, none⟩) (r.length + 1) c) i m Q) := by
  have h0 := obj_cell h 0
  have h1 := obj_cell h 1
  have h2 := obj_cell h 2
  have hl := hs.last
  have hk : r.length + 1 ≤ 9223372036854775807 := by have h1 := hs.le; have h2 := hs.max; simp at h1; unfold maxLen at h2; omega
  obtain ⟨k0, hk0⟩ : ∃ k0, k0 = r.length := ⟨_, rfl⟩
  have HO := Lib.hid (ok_yes p _ _ _ r.length c w h)
  have HQ : Hid (∀ w', Q w' → (w'.cell? ⟨p, 0, none⟩ = some (.slice A len cap) ∧ w'.cell? ⟨p, 1, none⟩ = some (.int .i64 (i : Int)) ∧ w'.cell? ⟨p, 2, none⟩ = some (.slice (some ⟨g, 0, none⟩) (k0 + 1) c) ∧ w'.cell? ⟨g, k0, none⟩ = some (.int .i64 (l : Int)))) := by
    intro w' q
    obtain ⟨q1, q2⟩ := hQ w' q
    have h' := q1.trans h
    exact ⟨obj_cell h' 0, obj_cell h' 1, by rw [hk0]; exact obj_cell h' 2, by rw [hk0]; exact (hs.keep q2).last⟩
  have HF : Hid (∀ w', Q w' → ∀ j, w'.frozen? ⟨p, j, none⟩ = false) := by
    intro w' q j
    exact obj_free ((hQ w' q).1.trans h) j
  have HH : Hid (∀ w', Q w' → w'.heap[p]? = some (.cells #[.slice A len cap, .int .i64 (i : Int), .slice (some ⟨g, 0, none⟩) (k0 + 1) c] 109 (0, 0))) := by
    intro w' q
    rw [hk0]
    exact (hQ w' q).1.trans h
  rw [← hk0] at h2 hl hk ⊢
  have hent : ∀ (args : Array Value) (w : World), (callFunc k args).run Tryz.prog w = .ok (.enter k args) w := henter
  have HT := Lib.hid hT
  clear hT h hs hQ henter hk0
  have hlc2 : l ≤ cap := by omega
  by_cases hci : cap = i
  · rw [if_pos hci] at HT
    have hli : cap = l := by omega
    have hlen : cap = len := by omega
    subst hci hli hlen
    simp only [Nat.sub_self] at HT
    by_cases hm0 : m = 0
    · subst hm0
      go_enter Tryz.func165, Tryz.ntmps165
      go_wp2_with (first
        | (go_at_call 40; refine HO.out.mono ?_; rintro e w' ⟨rfl, rfl⟩))
      go_region_held3 (fun w' => w'.cell? ⟨p, 0, none⟩ = some (.slice A cap cap) ∧ w'.cell? ⟨p, 1, none⟩ = some (.int .i64 (cap : Int)) ∧ w'.cell? ⟨p, 2, none⟩ = some (.slice (some ⟨g, 0, none⟩) (k0 + 1) c) ∧ w'.cell? ⟨g, k0, none⟩ = some (.int .i64 (cap : Int)))
        (first | exact ⟨h0, h1, h2, hl⟩ | exact HQ.out _ (by assumption) | go_keep)
        (first
        | (go_at_call 79; refine (end_cells p g k0 c cap _ hk (by simp [*]) (by simp [*])).mono ?_; rintro e w' ⟨rfl, n, rfl⟩)
        | (go_at_fn k; refine (HT.out _).mono ?_; rintro e w1 ⟨rfl, hq⟩))
      have hf := HF.out _ hq
      obtain ⟨q0, q1, q2, q3⟩ := HQ.out _ hq
      go_wp2
      go_ret
      exact read_end_none rfl hq (HH.out _ hq)
    · have hm1 : decide ((m : Int) = 0) = false := decide_eq_false (by omega)
      go_enter Tryz.func165, Tryz.ntmps165
      go_wp2_with (first
        | (go_at_call 40; refine HO.out.mono ?_; rintro e w' ⟨rfl, rfl⟩))
      go_region_held3 (fun w' => w'.cell? ⟨p, 0, none⟩ = some (.slice A cap cap) ∧ w'.cell? ⟨p, 1, none⟩ = some (.int .i64 (cap : Int)) ∧ w'.cell? ⟨p, 2, none⟩ = some (.slice (some ⟨g, 0, none⟩) (k0 + 1) c) ∧ w'.cell? ⟨g, k0, none⟩ = some (.int .i64 (cap : Int)))
        (first | exact ⟨h0, h1, h2, hl⟩ | exact HQ.out _ (by assumption) | go_keep)
        (first
        | (go_at_call 79; refine (end_cells p g k0 c cap _ hk (by simp [*]) (by simp [*])).mono ?_; rintro e w' ⟨rfl, n, rfl⟩)
        | (go_at_fn k; refine (HT.out _).mono ?_; rintro e w1 ⟨rfl, hq⟩))
      have hf := HF.out _ hq
      obtain ⟨q0, q1, q2, q3⟩ := HQ.out _ hq
      go_wp2
      go_ret
      exact read_end_some hm0 (by go_num) hq (HH.out _ hq)
  · rw [if_neg hci] at HT
    by_cases hm0 : m = 0
    · subst hm0
      go_enter Tryz.func165, Tryz.ntmps165
      go_wp2_with (first
        | (go_at_call 40; refine HO.out.mono ?_; rintro e w' ⟨rfl, rfl⟩))
      go_region_held3 (fun w' => w'.cell? ⟨p, 0, none⟩ = some (.slice A len cap) ∧ w'.cell? ⟨p, 1, none⟩ = some (.int .i64 (i : Int)) ∧ w'.cell? ⟨p, 2, none⟩ = some (.slice (some ⟨g, 0, none⟩) (k0 + 1) c) ∧ w'.cell? ⟨g, k0, none⟩ = some (.int .i64 (l : Int)))
        (first | exact ⟨h0, h1, h2, hl⟩ | exact HQ.out _ (by assumption) | go_keep)
        (first
        | (go_at_call 79; refine (end_cells p g k0 c l _ hk (by simp [*]) (by simp [*])).mono ?_; rintro e w' ⟨rfl, n, rfl⟩)
        | (go_at_fn k; refine (HT.out _).mono ?_; rintro e w1 ⟨rfl, hq⟩))
      have hf := HF.out _ hq
      obtain ⟨q0, q1, q2, q3⟩ := HQ.out _ hq
      go_wp2
      go_ret
      exact read_end_none rfl hq (HH.out _ hq)
    · have hm1 : decide ((m : Int) = 0) = false := decide_eq_false (by omega)
      go_enter Tryz.func165, Tryz.ntmps165
      go_wp2_with (first
        | (go_at_call 40; refine HO.out.mono ?_; rintro e w' ⟨rfl, rfl⟩))
      go_region_held3 (fun w' => w'.cell? ⟨p, 0, none⟩ = some (.slice A len cap) ∧ w'.cell? ⟨p, 1, none⟩ = some (.int .i64 (i : Int)) ∧ w'.cell? ⟨p, 2, none⟩ = some (.slice (some ⟨g, 0, none⟩) (k0 + 1) c) ∧ w'.cell? ⟨g, k0, none⟩ = some (.int .i64 (l : Int)))
        (first | exact ⟨h0, h1, h2, hl⟩ | exact HQ.out _ (by assumption) | go_keep)
        (first
        | (go_at_call 79; refine (end_cells p g k0 c l _ hk (by simp [*]) (by simp [*])).mono ?_; rintro e w' ⟨rfl, n, rfl⟩)
        | (go_at_fn k; refine (HT.out _).mono ?_; rintro e w1 ⟨rfl, hq⟩))
      have hf := HF.out _ hq
      obtain ⟨q0, q1, q2, q3⟩ := HQ.out _ hq
      go_wp2
      go_ret
      exact read_end_some hm0 (by go_num) hq (HH.out _ hq)

theorem read_int_none (p : Nat) (vb vp : Value) (E : Option Addr) (c : Nat) (f : Value) (w : World) (h : w.heap[p]? = some (.cells #[vb, vp, .slice E 0 c] 109 (0, 0))) :
    Calls Tryz.prog 165 #[.pointer (some ⟨p, 0, none⟩), f] w fun e w' => e = .returned (.int .i64 0) ∧ w = w' := by
  have HO := Lib.hid (ok_no p _ _ _ c w h)
  clear h
  go_enter Tryz.func165, Tryz.ntmps165
  go_wp2_with (first
    | (go_at_call 40; refine HO.out.mono ?_; rintro e w' ⟨rfl, rfl⟩))
  go_ret
  exact ⟨rfl, rfl⟩

end Go.Proofs.YtpfdnggacpehdaaGreatDoor
