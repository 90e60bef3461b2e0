/- Close, Tag, From. -/
import Derived.Test.YtclfoiodbjaanaaCurF
namespace Go.Proofs.Ytclfoiodbjaanaa
open Go.RowKit
set_option linter.unusedVariables false
set_option maxRecDepth 100000

theorem Stk.init {w : World} {g c l : Nat} {r : List Nat} (h : Stk w g c (l :: r).reverse) : Stk w g r.length r.reverse := by
  obtain ⟨cur, h1, h2, h3⟩ := h.row
  have hle := h.le
  have hm := h.max
  simp only [List.length_reverse, List.length_cons] at hle h3
  refine ⟨⟨cur, h1, by omega, ?_⟩, by simp, by omega⟩
  have h4 := congrArg (List.take r.length) h3
  rw [List.take_take, Nat.min_eq_left (by omega)] at h4
  rw [List.length_reverse, h4, List.reverse_cons, ints_append, List.take_append_of_le_length (by simp [ints_length]), List.take_of_length_le (by simp [ints_length])]
theorem close_no {W w : World} {p g : Nat} {bs : List UInt8} {s : St} (h : Cur W w p g bs s) (hd : s.fr.length ≤ 1) :
    Calls Try.prog 18 #[.pointer (some ⟨p, 0, none⟩)] w (CurTo W w p g bs s.shuts.2 (.bool s.shuts.1)) := by
  have e : s.shuts = (false, s) := by
    obtain ⟨i, fr⟩ := s
    match fr, hd with
    | [], _ => rfl
    | [l], _ => rfl
  rw [e]
  have hD := Lib.hid (deep_cur h)
  have H := Lib.hid h
  obtain ⟨k, hk⟩ : ∃ k, k = s.fr.length := ⟨_, rfl⟩
  rw [← hk] at hD hd
  have hw : IntKind.i64.wrap ((k : Int) - 1) = (k : Int) - 1 := IntWalk.i64_in _ (by omega)
  have hl : decide ((k : Int) - 1 < 1) = true := decide_eq_true (by omega)
  clear hk h
  go_enter Try.func18, Try.ntmps18
  go_wp2_with (go_at_call 13; refine hD.out.mono ?_; rintro e w' ⟨rfl, rfl⟩)
  go_ret
  exact cur_still H.out rfl
theorem close_more {W w : World} {p g l l2 : Nat} {r : List Nat} {bs : List UInt8} {s : St} (h : Cur W w p g bs s) (hfr : s.fr = l :: l2 :: r) (hm : s.more = true) :
    Calls Try.prog 18 #[.pointer (some ⟨p, 0, none⟩)] w (CurTo W w p g bs s.shuts.2 (.bool s.shuts.1)) := by
  have e : s.shuts = (false, s) := by
    unfold St.more at hm
    unfold St.shuts
    rw [hfr] at hm ⊢
    dsimp only at hm ⊢
    rw [if_neg (by have := of_decide_eq_true hm; omega)]
  rw [e]
  have hD := Lib.hid (deep_cur h)
  have hM := Lib.hid (more_cur h)
  rw [hm] at hM
  have H := Lib.hid h
  rw [hfr] at hD
  simp only [List.length_cons] at hD
  have hb : r.length + 2 ≤ 9223372036854775807 := by
    obtain ⟨A, cap, c, _, hp, hst⟩ := cur_some h hfr
    have h1 := hst.le
    have h2 := hst.max
    simp at h1
    unfold maxLen at h2
    omega
  obtain ⟨k, hk⟩ : ∃ k, k = r.length := ⟨_, rfl⟩
  rw [← hk] at hD hb
  have hw : IntKind.i64.wrap ((k : Int) + 1 + 1 - 1) = (k : Int) + 1 := by
    rw [show (k : Int) + 1 + 1 - 1 = (k : Int) + 1 by omega]
    exact IntWalk.i64_in _ (by omega)
  clear hk h hfr hm
  go_enter Try.func18, Try.ntmps18
  go_wp2_with (first
    | (go_at_call 13; refine hD.out.mono ?_; rintro e w' ⟨rfl, rfl⟩)
    | (go_at_call 14; refine hM.out.mono ?_; rintro e w' ⟨rfl, n, rfl⟩))
  go_ret
  exact ⟨rfl, g, .inl rfl, H.out.bel (drawn_below w n), Only.of_below (drawn_below w n)⟩
theorem close_done {W w : World} {p g l2 k n cap : Nat} {r : List Nat} {bs : List UInt8} {s : St} {A : Option Addr} {ve : Value} (h : Cur W w p g bs s) (hk : k = r.length) (hR : Right bs ⟨s.at_, l2 :: r⟩) (hB : Bs W A cap bs)
    (hp : w.heap[p]? = some (.cells #[.slice A bs.length cap, .int .i64 (s.at_ : Int), ve] 41 (0, 0))) (hst : Stk w g (r.length + 1) (l2 :: r).reverse) :
    CurTo W w p g bs ⟨s.at_, l2 :: r⟩ (.bool true) (.returned (.bool true)) ((w.drewN n).setCell ⟨p, 2, none⟩ (.slice (some ⟨g, 0, none⟩) (k + 1) (k + 1))) := by
  subst hk
  obtain ⟨⟨h1, h2, h3, h4, h5, h6, h7⟩, _⟩ := h
  have hp' : (w.drewN n).heap[p]? = some (.cells #[.slice A bs.length cap, .int .i64 (s.at_ : Int), ve] 41 (0, 0)) := hp
  have hsz : ((w.drewN n).setCell ⟨p, 2, none⟩ (.slice (some ⟨g, 0, none⟩) (r.length + 1) (r.length + 1))).heap.size = w.heap.size := by simp [World.setCell]
  refine ⟨rfl, g, .inl rfl, ⟨⟨h1, h2, h3, by rw [hsz]; exact h4, by rw [hsz]; exact h5, (h6.trans ((drawn_below w n).mono (by omega))).setCell (p := ⟨p, 2, none⟩) h1 _, hR⟩, .inr ⟨l2, r, A, cap, r.length + 1, rfl, hB, ?_, ?_⟩⟩, (Only.of_below (drawn_below w n)).set (q := ⟨p, 2, none⟩) (.inl rfl) _⟩
  · rw [obj_set hp' 2]
    rfl
  · exact (hst.keep (w' := w.drewN n) rfl).keep (heap_setCell_other _ _ g _ (fun e => h3 e.symm))
theorem close_yes {W w : World} {p g l l2 : Nat} {r : List Nat} {bs : List UInt8} {s : St} (h : Cur W w p g bs s) (hfr : s.fr = l :: l2 :: r) (hm : s.more = false) :
    Calls Try.prog 18 #[.pointer (some ⟨p, 0, none⟩)] w (CurTo W w p g bs s.shuts.2 (.bool s.shuts.1)) := by
  have hR := right_shuts h.1.2.2.2.2.2.2
  have e : s.shuts = (true, ⟨s.at_, l2 :: r⟩) := by
    have hr := h.1.2.2.2.2.2.2
    unfold St.more at hm
    unfold Right at hr
    unfold St.shuts
    rw [hfr] at hm hr ⊢
    dsimp only at hm hr ⊢
    rw [if_pos (by have := of_decide_eq_false hm; omega)]
  rw [e] at hR ⊢
  dsimp only at hR ⊢
  have hD := Lib.hid (deep_cur h)
  have hM := Lib.hid (more_cur h)
  rw [hm] at hM
  have H := Lib.hid h
  rw [hfr] at hD
  simp only [List.length_cons] at hD
  obtain ⟨A, cap, c, hB, hp, hst⟩ := cur_some h hfr
  have hle := hst.le
  have hb := hst.max
  simp at hle
  unfold maxLen at hb
  have hin := Lib.hid hst.init
  have c2 := obj_cell hp 2
  have hf := obj_free hp 2
  have HP := Lib.hid hp
  have HB := Lib.hid hB
  obtain ⟨k, hk⟩ : ∃ k, k = r.length := ⟨_, rfl⟩
  simp only [List.length_cons] at c2
  rw [← hk] at hD hle c2
  have hK := Lib.hid hk
  have hw : IntKind.i64.wrap ((k : Int) + 1 + 1 - 1) = (k : Int) + 1 := by
    rw [show (k : Int) + 1 + 1 - 1 = (k : Int) + 1 by omega]
    exact IntWalk.i64_in _ (by omega)
  have hR := Lib.hid hR
  clear hk h hfr hm hp hst hB
  go_enter Try.func18, Try.ntmps18
  go_wp2_with (first
    | (go_at_call 13; refine hD.out.mono ?_; rintro e w' ⟨rfl, rfl⟩)
    | (go_at_call 14; refine hM.out.mono ?_; rintro e w' ⟨rfl, n, rfl⟩))
  go_ret
  exact close_done H.out hK.out hR.out HB.out HP.out hin.out
theorem close_cur {W w : World} {p g : Nat} {bs : List UInt8} {s : St} (h : Cur W w p g bs s) :
    Calls Try.prog 18 #[.pointer (some ⟨p, 0, none⟩)] w (CurTo W w p g bs s.shuts.2 (.bool s.shuts.1)) := by
  match hfr : s.fr with
  | [] => exact close_no h (by rw [hfr]; decide)
  | [l] => exact close_no h (by rw [hfr]; simp)
  | l :: l2 :: r =>
    cases hm : s.more
    · exact close_yes h hfr hm
    · exact close_more h hfr hm
end Go.Proofs.Ytclfoiodbjaanaa
