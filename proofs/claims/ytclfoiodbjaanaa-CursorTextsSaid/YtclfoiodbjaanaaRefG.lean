/- The document's cursor: More, Close, From. -/
import Derived.Test.YtclfoiodbjaanaaRefF
namespace Go.Proofs.Ytclfoiodbjaanaa
open Go.RowKit
set_option linter.unusedVariables false
set_option maxRecDepth 100000

theorem rmore_ref {W w : World} {p g : Nat} {bs : List UInt8} {s : St} (h : Ref W w p g bs s) :
    Calls Try.prog 30 #[.pointer (some ⟨p, 0, none⟩)] w fun e w' => e = .returned (.bool s.more) ∧ ∃ n, w' = w.drewN n := by
  rcases hfr : s.fr with _ | ⟨l, r⟩
  · have e1 : s.more = false := by simp [St.more, hfr]
    rw [e1]
    obtain ⟨A, cap, hB, hp⟩ := ref_none h hfr
    have c3 := obj_cell hp 3
    clear h hfr hB hp e1
    go_enter Try.func30, Try.ntmps30
    go_wp2
    go_quiet (fail)
    go_wp2
    go_ret
    exact ⟨rfl, _, rfl⟩
  · have e1 : s.more = decide (s.at_ < l) := by simp [St.more, hfr]
    rw [e1]
    obtain ⟨A, cap, c, hB, hp, hst⟩ := ref_some h hfr
    have c1 := obj_cell hp 1
    have c2 := obj_cell hp 2
    have c3 := obj_cell hp 3
    have hl := hst.last
    have hk : r.length + 1 ≤ 9223372036854775807 := by have h1 := hst.le; have h2 := hst.max; simp at h1; unfold maxLen at h2; omega
    obtain ⟨k0, hk0⟩ : ∃ k0, k0 = r.length := ⟨_, rfl⟩
    rw [← hk0] at c2 hl hk
    clear h hfr hB hp hst hk0 e1
    go_enter Try.func30, Try.ntmps30
    go_wp2
    go_quiet ((go_at_call 39; exact Calls.quiet_of (rend_cells p g k0 c l _ hk c2 hl)))
    go_wp2
    go_ret
    exact ⟨by go_num, _, rfl⟩

theorem Stk.init_cap {w : World} {g c l : Nat} {r : List Nat} (h : Stk w g c (l :: r).reverse) : Stk w g c r.reverse := by
  obtain ⟨cur, h1, h2, h3⟩ := h.row
  have hle := h.le
  simp only [List.length_reverse, List.length_cons] at hle h3
  refine ⟨⟨cur, h1, h2, ?_⟩, by simp; omega, h.max⟩
  have h4 := congrArg (List.take r.length) h3
  rw [List.take_take, Nat.min_eq_left (by omega)] at h4
  rw [List.length_reverse, h4, List.reverse_cons, ints_append, List.take_append_of_le_length (by simp [ints_length]), List.take_of_length_le (by simp [ints_length])]
theorem rclose_done {W w : World} {p g l2 k n c cap : Nat} {r : List Nat} {bs : List UInt8} {s : St} {A : Option Addr} {ve : Value} (h : Ref W w p g bs s) (hk : k = r.length) (hR : Right bs ⟨s.at_, l2 :: r⟩) (hB : Bs W A cap bs)
    (hp : w.heap[p]? = some (.cells #[.slice A bs.length cap, .int .i64 (s.at_ : Int), ve, .bool false] 43 (0, 0))) (hst : Stk w g c (l2 :: r).reverse) :
    RefTo W w p g bs ⟨s.at_, l2 :: r⟩ (.bool true) (.returned (.bool true)) ((w.drewN n).setCell ⟨p, 2, none⟩ (.slice (some ⟨g, 0, none⟩) (k + 1) c)) := by
  subst hk
  obtain ⟨⟨h1, h2, h3, h4, h5, h6, h7⟩, _⟩ := h
  have hp' : (w.drewN n).heap[p]? = some (.cells #[.slice A bs.length cap, .int .i64 (s.at_ : Int), ve, .bool false] 43 (0, 0)) := hp
  have hsz : ((w.drewN n).setCell ⟨p, 2, none⟩ (.slice (some ⟨g, 0, none⟩) (r.length + 1) c)).heap.size = w.heap.size := by simp [World.setCell]
  refine ⟨rfl, g, .inl rfl, ⟨⟨h1, h2, h3, by rw [hsz]; exact h4, by rw [hsz]; exact h5, (h6.trans ((drawn_bel w n).mono (by omega))).setCell (p := ⟨p, 2, none⟩) h1 _, hR⟩, A, cap, hB, .inr ⟨l2, r, c, rfl, ?_, ?_⟩⟩, (Only.of_below (drawn_bel w n)).set (q := ⟨p, 2, none⟩) (.inl rfl) _⟩
  · rw [obj_set hp' 2]
    rfl
  · exact (hst.keep (w' := w.drewN n) rfl).keep (heap_setCell_other _ _ g _ (fun e => h3 e.symm))
theorem rclose_none {W w : World} {p g : Nat} {bs : List UInt8} {s : St} (h : Ref W w p g bs s) (hfr : s.fr = []) :
    Calls Try.prog 29 #[.pointer (some ⟨p, 0, none⟩)] w (RefTo W w p g bs s.shuts.2 (.bool s.shuts.1)) := by
  have e : s.shuts = (false, s) := by unfold St.shuts; rw [hfr]
  rw [e]
  obtain ⟨A, cap, hB, hp⟩ := ref_none h hfr
  have c3 := obj_cell hp 3
  have H := Lib.hid h
  clear h hfr hB hp e
  go_enter Try.func29, Try.ntmps29
  go_wp2
  go_quiet (fail)
  go_wp2
  go_ret
  exact (ref_still H.out rfl).drawn _
theorem rclose_one {W w : World} {p g l : Nat} {bs : List UInt8} {s : St} (h : Ref W w p g bs s) (hfr : s.fr = [l]) :
    Calls Try.prog 29 #[.pointer (some ⟨p, 0, none⟩)] w (RefTo W w p g bs s.shuts.2 (.bool s.shuts.1)) := by
  have e : s.shuts = (false, s) := by unfold St.shuts; rw [hfr]
  rw [e]
  obtain ⟨A, cap, c, hB, hp, hst⟩ := ref_some h hfr
  have c2 := obj_cell hp 2
  simp only [List.length_nil, Nat.zero_add] at c2
  have c3 := obj_cell hp 3
  have H := Lib.hid h
  clear h hfr hB hp hst e
  go_enter Try.func29, Try.ntmps29
  go_wp2
  go_quiet (fail)
  go_wp2
  go_ret
  exact (ref_still H.out rfl).drawn _
theorem rclose_more {W w : World} {p g l l2 : Nat} {r : List Nat} {bs : List UInt8} {s : St} (h : Ref W w p g bs s) (hfr : s.fr = l :: l2 :: r) :
    Calls Try.prog 29 #[.pointer (some ⟨p, 0, none⟩)] w (RefTo W w p g bs s.shuts.2 (.bool s.shuts.1)) := by
  have hR := Lib.hid (right_shuts h.1.2.2.2.2.2.2)
  obtain ⟨A, cap, c, hB, hp, hst⟩ := ref_some h hfr
  have c1 := obj_cell hp 1
  have c2 := obj_cell hp 2
  have c3 := obj_cell hp 3
  have hf := obj_free hp 2
  have hl := hst.last
  have hk : r.length + 1 + 1 ≤ c := by have h1 := hst.le; simpa using h1
  have hcm : c ≤ 9223372036854775807 := by have h2 := hst.max; unfold maxLen at h2; omega
  have hin := Lib.hid hst.init_cap
  have H := Lib.hid h
  have HP := Lib.hid hp
  have HB := Lib.hid hB
  obtain ⟨k, hk0⟩ : ∃ k, k = r.length := ⟨_, rfl⟩
  simp only [List.length_cons] at c2 hl
  rw [← hk0] at c2 hl hk
  have hK := Lib.hid hk0
  have hone : decide (k + 1 + 1 = 1) = false := by simp
  have hw : IntKind.i64.wrap ((k : Int) + 1 + 1 - 1) = (k : Int) + 1 := by
    rw [show (k : Int) + 1 + 1 - 1 = (k : Int) + 1 by omega]
    exact IntWalk.i64_in _ (by omega)
  by_cases he : s.at_ = l
  · have e : s.shuts = (true, ⟨s.at_, l2 :: r⟩) := by unfold St.shuts; rw [hfr]; dsimp only; rw [if_pos he]
    rw [e] at hR ⊢
    have hI := Lib.hid he.symm
    rw [he] at c1
    clear h hfr hp hst hB hk0 e he
    go_enter Try.func29, Try.ntmps29
    go_wp2
    go_quiet ((go_at_call 39; exact Calls.quiet_of (rend_cells p g (k + 1) c l _ (by omega) c2 hl)))
    go_wp2
    go_region
    all_goals go_wp2
    all_goals
      go_ret
      exact rclose_done H.out hK.out hR.out HB.out HP.out hin.out
  · have e : s.shuts = (false, s) := by unfold St.shuts; rw [hfr]; dsimp only; rw [if_neg he]
    rw [e] at hR ⊢
    obtain ⟨i, hi⟩ : ∃ i, i = s.at_ := ⟨_, rfl⟩
    rw [← hi] at c1 he
    have hne : ((i : Int) != (l : Int)) = true := by
      have : (i : Int) ≠ (l : Int) := fun e => he (by omega)
      simpa using this
    clear h hfr hp hst hB hk0 e hi he
    go_enter Try.func29, Try.ntmps29
    go_wp2
    go_quiet ((go_at_call 39; exact Calls.quiet_of (rend_cells p g (k + 1) c l _ (by omega) c2 hl)))
    go_wp2
    go_ret
    exact (ref_still H.out rfl).drawn _
theorem rclose_ref {W w : World} {p g : Nat} {bs : List UInt8} {s : St} (h : Ref W w p g bs s) :
    Calls Try.prog 29 #[.pointer (some ⟨p, 0, none⟩)] w (RefTo W w p g bs s.shuts.2 (.bool s.shuts.1)) := by
  match hfr : s.fr with
  | [] => exact rclose_none h hfr
  | [l] => exact rclose_one h hfr
  | l :: l2 :: r => exact rclose_more h hfr

/-- What the document's From answers. -/
def RBegins (w : World) (A : Option Addr) (cap : Nat) (bs : List UInt8) (e : Ending) (w' : World) : Prop :=
  ∃ p g, e = .returned (.pointer (some ⟨p, 0, none⟩)) ∧ Below w.heap.size w w' ∧ p ≥ w.heap.size ∧ g ≥ w.heap.size ∧ ∀ W : World, W.heap.size ≤ w.heap.size → Below W.heap.size W w → Bs W A cap bs → Ref W w' p g bs ⟨0, [bs.length]⟩
theorem rbegins_done {w : World} {bs : List UInt8} {A : Option Addr} {cap : Nat} :
    RBegins w A cap bs (.returned (.pointer (some ⟨w.heap.size + 1, 0, none⟩))) ((w.alloc (.cells #[.int .i64 (bs.length : Int)] 3)).alloc (.cells #[.slice A bs.length cap, .int .i64 0, .slice (some ⟨w.heap.size, 0, none⟩) 1 1, .bool false] 43)) := by
  have hb2 : Below w.heap.size w ((w.alloc (.cells #[.int .i64 (bs.length : Int)] 3)).alloc (.cells #[.slice A bs.length cap, .int .i64 0, .slice (some ⟨w.heap.size, 0, none⟩) 1 1, .bool false] 43)) :=
    ((Below.refl _ _).alloc (Nat.le_refl _) _).alloc (by simp) _
  have hp := heap_alloc2_new w (.cells #[.int .i64 (bs.length : Int)] 3) (.cells #[.slice A bs.length cap, .int .i64 0, .slice (some ⟨w.heap.size, 0, none⟩) 1 1, .bool false] 43)
  have hg := heap_alloc2_old w (.cells #[.int .i64 (bs.length : Int)] 3) (.cells #[.slice A bs.length cap, .int .i64 0, .slice (some ⟨w.heap.size, 0, none⟩) 1 1, .bool false] 43)
  refine ⟨w.heap.size + 1, w.heap.size, rfl, hb2, by omega, by omega, fun W hW hWw hK => ⟨⟨by omega, hW, by omega, lt_of_block hp, lt_of_block hg, hWw.trans (hb2.mono hW), right_start bs⟩, A, cap, hK, .inr ⟨bs.length, [], 1, rfl, hp, ⟨⟨_, hg, by simp, rfl⟩, by simp, by decide⟩⟩⟩⟩
theorem rfrom_any (A : Option Addr) (n cap : Nat) (bs : List UInt8) (w : World) (hn : n = bs.length) (hb : Bs w A cap bs) :
    Calls Try.prog 8 #[.slice A n cap] w (RBegins w A cap bs) := by
  subst hn
  clear hb
  go_enter Try.func8, Try.ntmps8
  go_wp2
  go_ret
  exact rbegins_done
end Go.Proofs.Ytclfoiodbjaanaa
