/- Several texts in one: RefB, RefBF. What each proves, and its conditions, stands at its own head. -/
import Derived.Test.YtpfdnggacpehdaaGreatDoorPkDU25
import Derived.Test.YtpfdnggacpehdaaGreatDoorPkDU26
import Derived.IntWalk
import Derived.Test.YtpfdnggacpehdaaGreatDoorPkDU10
/- The document's cursor: Varint. -/
namespace Go.Proofs.YtpfdnggacpehdaaGreatDoor
open Go.RowKit
set_option linter.unusedVariables false
set_option maxRecDepth 100000

theorem drawn_bel (w : World) (n : Nat) : Below w.heap.size w (w.drewN n) := ⟨rfl, rfl, rfl, Nat.le_refl _, fun _ _ => rfl⟩
theorem ref_to_fail {W w : World} {p g : Nat} {bs : List UInt8} {s : St} (h : Ref W w p g bs s) (v : Value) (n : Nat) : RefTo W w p g bs St.none v (.returned v) (failed (w.drewN n) p) := by
  obtain ⟨⟨h1, h2, h3, h4, h5, h6, h7⟩, A, cap, hB, h8⟩ := h
  have ho := failed_only (w.drewN n) p g
  have ho' : Only p g w (failed (w.drewN n) p) := (Only.of_below (drawn_bel w n)).trans ho
  have hs := ho'.size
  refine ⟨rfl, g, .inl rfl, ⟨⟨h1, h2, h3, by omega, by omega, below_only h6 ho' h1 h2 (by omega), right_none bs⟩, A, cap, hB, .inl ⟨rfl, ?_⟩⟩, ho'⟩
  rcases h8 with ⟨a, b⟩ | ⟨l, r, c, a, d, e⟩
  · exact failed_row (w := w.drewN n) b
  · exact failed_row (w := w.drewN n) d
theorem ref_to_on {W w : World} {p g l m n : Nat} {r : List Nat} {bs : List UInt8} {s : St} {x : Int} (h : Ref W w p g bs s) (hfr : s.fr = l :: r) (hm : s.at_ + m ≤ l) (v : Value) (hx : x = ((s.at_ + m : Nat) : Int)) :
    RefTo W w p g bs ⟨s.at_ + m, s.fr⟩ v (.returned v) ((w.drewN n).setCell ⟨p, 1, none⟩ (.int .i64 x)) := by
  subst hx
  obtain ⟨A, cap, c, hB, hp, hst⟩ := ref_some h hfr
  obtain ⟨⟨h1, h2, h3, h4, h5, h6, h7⟩, _⟩ := h
  have ho : Only p g w ((w.drewN n).setCell ⟨p, 1, none⟩ (.int .i64 ((s.at_ + m : Nat) : Int))) := (Only.of_below (drawn_bel w n)).set (q := ⟨p, 1, none⟩) (.inl rfl) _
  have hs := ho.size
  have hR : Right bs ⟨s.at_ + m, s.fr⟩ := by
    unfold Right at h7 ⊢
    rw [hfr] at h7 ⊢
    dsimp only at h7 ⊢
    exact ⟨hm, h7.2.1, h7.2.2.1, h7.2.2.2.1, by have := h7.2.2.2.2; omega⟩
  have hp' : (w.drewN n).heap[p]? = some (.cells #[.slice A bs.length cap, .int .i64 (s.at_ : Int), .slice (some ⟨g, 0, none⟩) (r.length + 1) c, .bool false] 89 (0, 0)) := hp
  refine ⟨rfl, g, .inl rfl, ⟨⟨h1, h2, h3, by omega, by omega, below_only h6 ho h1 h2 (by omega), hR⟩, A, cap, hB, .inr ⟨l, r, c, hfr, ?_, ?_⟩⟩, ho⟩
  · rw [obj_set hp' 1]
    rfl
  · exact (hst.keep (w' := w.drewN n) rfl).keep (heap_setCell_other _ _ g _ (fun e => h3 e.symm))
/-- The bytes that a read is handed. -/
theorem ref_seg {W w : World} {p g l : Nat} {r : List Nat} {bs : List UInt8} {s : St} {A : Option Addr} {cap : Nat} (h : Ref W w p g bs s) (hfr : s.fr = l :: r) (hb : Bs W A cap bs) (w1 : World) (hw : Below w.heap.size w w1) :
    l - s.at_ = (segOf bs s.at_ l).length ∧ Bs w1 (if cap = s.at_ then A else A.map (·.add s.at_)) (cap - s.at_) (segOf bs s.at_ l) ∧ s.at_ ≤ l ∧ l ≤ bs.length ∧ bs.length ≤ cap ∧ cap ≤ 9223372036854775807 := by
  obtain ⟨⟨h1, h2, h3, h4, h5, h6, h7⟩, _⟩ := h
  unfold Right at h7
  rw [hfr] at h7
  obtain ⟨r1, r2, r3, r4⟩ := h7
  have hm := hb.max
  unfold maxLen at hm
  refine ⟨(segOf_length r2).symm, ?_, r1, r2, hb.le, by omega⟩
  have hb1 : Bs w1 A cap bs := hb.below (h6.trans (hw.mono (by omega))) (Nat.le_refl _)
  exact (hb1.take l).cut s.at_ (by simp; omega)

theorem rvarint_none {W w : World} {p g : Nat} {bs : List UInt8} {s : St} (h : Ref W w p g bs s) (hfr : s.fr = []) :
    Calls Tryz.prog 46 #[.pointer (some ⟨p, 0, none⟩)] w (RefTo W w p g bs (s.rd tVar 0 bs).2 (.int .u64 (((s.rd tVar 0 bs).1 : Nat) : Int))) := by
  have e1 : s.rd tVar 0 bs = (0, s) := by unfold St.rd; rw [hfr]
  rw [e1]
  obtain ⟨A, cap, hB, hp⟩ := ref_none h hfr
  have c3 := obj_cell hp 3
  have H := Lib.hid h
  clear h hB hp hfr
  go_enter Tryz.func46, Tryz.ntmps46
  go_wp2
  go_ret
  exact ref_still H.out rfl
--GEN
theorem rvarint_some {W w : World} {p g l : Nat} {r : List Nat} {bs : List UInt8} {s : St} (h : Ref W w p g bs s) (hfr : s.fr = l :: r) :
    Calls Tryz.prog 46 #[.pointer (some ⟨p, 0, none⟩)] w (RefTo W w p g bs (s.rd tVar 0 bs).2 (.int .u64 (((s.rd tVar 0 bs).1 : Nat) : Int))) := by
  obtain ⟨A, cap, c, hB, hp, hst⟩ := ref_some h hfr
  have hseg := fun w1 hw => ref_seg h hfr hB w1 hw
  obtain ⟨l1, _, l2, l3, l4, l5⟩ := hseg w (Below.refl _ _)
  have hm := tVar_le (segOf bs s.at_ l)
  rw [← l1] at hm
  have c0 := obj_cell hp 0
  have c1 := obj_cell hp 1
  have c2 := obj_cell hp 2
  have c3 := obj_cell hp 3
  have hl := hst.last
  have f0 := obj_free hp 1
  have hk : r.length + 1 ≤ 9223372036854775807 := by have h1 := hst.le; have h2 := hst.max; simp at h1; unfold maxLen at h2; omega
  have hP := Lib.hid hp
  have hRD : Hid (s.rd tVar 0 bs = if (tVar (segOf bs s.at_ l)).2 = 0 then (0, St.none) else ((tVar (segOf bs s.at_ l)).1, ⟨s.at_ + (tVar (segOf bs s.at_ l)).2, s.fr⟩)) := by show _ = _; unfold St.rd; rw [hfr]
  have hG : Hid (∀ n, Calls Tryz.prog 91 #[.slice (if cap = s.at_ then A else A.map (·.add s.at_)) (l - s.at_) (cap - s.at_)] (w.drewN n) fun e w' => e = .returned (.tuple #[.int .u64 ((tVar (segOf bs s.at_ l)).1 : Int), .int .i64 ((tVar (segOf bs s.at_ l)).2 : Int)]) ∧ w.drewN n = w') := by
    show ∀ n, _
    intro n
    exact rget_n _ _ _ _ _ l1 (hseg _ (drawn_bel w n)).2.1
  obtain ⟨u, hu⟩ : ∃ u, u = (tVar (segOf bs s.at_ l)).1 := ⟨_, rfl⟩
  obtain ⟨m, hmm⟩ : ∃ m, m = (tVar (segOf bs s.at_ l)).2 := ⟨_, rfl⟩
  rw [← hu, ← hmm] at hRD
  rw [← hu, ← hmm] at hG
  rw [← hmm] at hm
  obtain ⟨i, hi⟩ : ∃ i, i = s.at_ := ⟨_, rfl⟩
  rw [← hi] at l2 hm c1 hG
  have hI := Lib.hid hi
  have H := Lib.hid h
  have hF := Lib.hid hfr
  obtain ⟨k0, hk0⟩ : ∃ k0, k0 = r.length := ⟨_, rfl⟩
  rw [← hk0] at c2 hl hk
  obtain ⟨len, hlen⟩ : ∃ len, len = bs.length := ⟨_, rfl⟩
  rw [← hlen] at l3 l4 c0
  have hlc2 : l ≤ cap := by omega
  clear h hfr hB hp hst hseg l1 hu hi hk0 hlen hmm
  by_cases hci : cap = i
  · rw [if_pos hci] at hG
    have hli : cap = l := by omega
    have hlen : cap = len := by omega
    have hm0 : m = 0 := by omega
    subst hci hli hlen hm0
    simp only [Nat.sub_self] at hG
    rw [hRD.out, if_pos rfl]
    go_enter Tryz.func46, Tryz.ntmps46
    go_wp2
    go_quiet (first
      | (go_at_call 88; exact Calls.quiet_of (rend_cells p g k0 c cap _ hk c2 hl))
      | (go_at_call 91; exact Calls.quiet_of ((hG.out _).mono fun _ _ ⟨he, hw⟩ => ⟨he, 0, hw ▸ rfl⟩)))
    go_wp2_with (go_at_call 90; refine (fail_any p _ _ _ _ (w.drewN _) hP.out).mono ?_; rintro e w' ⟨rfl, rfl⟩)
    go_ret
    exact ref_to_fail H.out _ _
  · rw [if_neg hci] at hG
    by_cases hm0 : m = 0
    · subst hm0
      rw [hRD.out, if_pos rfl]
      go_enter Tryz.func46, Tryz.ntmps46
      go_wp2
      go_quiet (first
        | (go_at_call 88; exact Calls.quiet_of (rend_cells p g k0 c l _ hk c2 hl))
        | (go_at_call 91; exact Calls.quiet_of ((hG.out _).mono fun _ _ ⟨he, hw⟩ => ⟨he, 0, hw ▸ rfl⟩)))
      go_wp2_with (go_at_call 90; refine (fail_any p _ _ _ _ (w.drewN _) hP.out).mono ?_; rintro e w' ⟨rfl, rfl⟩)
      go_ret
      exact ref_to_fail H.out _ _
    · have hm1 : decide ((m : Int) = 0) = false := decide_eq_false (by omega)
      rw [hRD.out, if_neg hm0]
      go_enter Tryz.func46, Tryz.ntmps46
      go_wp2
      go_quiet (first
        | (go_at_call 88; exact Calls.quiet_of (rend_cells p g k0 c l _ hk c2 hl))
        | (go_at_call 91; exact Calls.quiet_of ((hG.out _).mono fun _ _ ⟨he, hw⟩ => ⟨he, 0, hw ▸ rfl⟩)))
      go_wp2_with (go_at_call 90; refine (fail_any p _ _ _ _ (w.drewN _) hP.out).mono ?_; rintro e w' ⟨rfl, rfl⟩)
      go_ret
      have e := hI.out
      have hx : (i : Int) + (m : Int) = ((s.at_ + m : Nat) : Int) := by omega
      exact ref_to_on H.out hF.out (by omega) _ hx
theorem rvarint_ref {W w : World} {p g : Nat} {bs : List UInt8} {s : St} (h : Ref W w p g bs s) :
    Calls Tryz.prog 46 #[.pointer (some ⟨p, 0, none⟩)] w (RefTo W w p g bs (s.rd tVar 0 bs).2 (.int .u64 (((s.rd tVar 0 bs).1 : Nat) : Int))) := by
  rcases hfr : s.fr with _ | ⟨l, r⟩
  · exact rvarint_none h hfr
  · exact rvarint_some h hfr
end Go.Proofs.YtpfdnggacpehdaaGreatDoor

/- The document's cursor: Fixed. -/
namespace Go.Proofs.YtpfdnggacpehdaaGreatDoor
open Go.RowKit
set_option linter.unusedVariables false
set_option maxRecDepth 100000

theorem rfixed_none {W w : World} {p g : Nat} {bs : List UInt8} {s : St} (k : Nat) (h : Ref W w p g bs s) (hfr : s.fr = []) :
    Calls Tryz.prog 45 #[.pointer (some ⟨p, 0, none⟩), .int .i64 (k : Int)] w (RefTo W w p g bs (s.rd (tFix k) 0 bs).2 (.int .u64 (((s.rd (tFix k) 0 bs).1 : Nat) : Int))) := by
  have e1 : s.rd (tFix k) 0 bs = (0, s) := by unfold St.rd; rw [hfr]
  rw [e1]
  obtain ⟨A, cap, hB, hp⟩ := ref_none h hfr
  have c3 := obj_cell hp 3
  have H := Lib.hid h
  clear h hB hp hfr
  go_enter Tryz.func45, Tryz.ntmps45
  go_wp2
  go_ret
  exact ref_still H.out rfl
theorem rfixed_some {W w : World} {p g l : Nat} {r : List Nat} {bs : List UInt8} {s : St} (k : Nat) (hk1 : 1 ≤ k) (hk8 : k ≤ 8) (h : Ref W w p g bs s) (hfr : s.fr = l :: r) :
    Calls Tryz.prog 45 #[.pointer (some ⟨p, 0, none⟩), .int .i64 (k : Int)] w (RefTo W w p g bs (s.rd (tFix k) 0 bs).2 (.int .u64 (((s.rd (tFix k) 0 bs).1 : Nat) : Int))) := by
  obtain ⟨A, cap, c, hB, hp, hst⟩ := ref_some h hfr
  have hseg := fun w1 hw => ref_seg h hfr hB w1 hw
  obtain ⟨l1, _, l2, l3, l4, l5⟩ := hseg w (Below.refl _ _)
  have hm : isN k (segOf bs s.at_ l) = true → k ≤ l - s.at_ := by
    intro hb
    rw [l1]
    simpa [isN] using hb
  have c0 := obj_cell hp 0
  have c1 := obj_cell hp 1
  have c2 := obj_cell hp 2
  have c3 := obj_cell hp 3
  have hl := hst.last
  have f0 := obj_free hp 1
  have hk : r.length + 1 ≤ 9223372036854775807 := by have h1 := hst.le; have h2 := hst.max; simp at h1; unfold maxLen at h2; omega
  have hP := Lib.hid hp
  have hRD : Hid (s.rd (tFix k) 0 bs = if isN k (segOf bs s.at_ l) = true then (getN k (segOf bs s.at_ l), ⟨s.at_ + k, s.fr⟩) else (0, St.none)) := by
    show _ = _
    unfold St.rd tFix
    rw [hfr]
    have hk0 : k ≠ 0 := by omega
    cases hb : isN k (segOf bs s.at_ l) <;> simp [hb, hk0]
  have hG : Hid (∀ n, Calls Tryz.prog 89 #[.slice (if cap = s.at_ then A else A.map (·.add s.at_)) (l - s.at_) (cap - s.at_), .int .i64 (k : Int)] (w.drewN n) fun e w' => e = .returned (.tuple #[.int .u64 (getN k (segOf bs s.at_ l) : Int), .bool (isN k (segOf bs s.at_ l))]) ∧ w.drewN n = w') := by
    show ∀ n, _
    intro n
    exact fget_n _ _ _ k _ _ l1 (hseg _ (drawn_bel w n)).2.1 hk8 hk1
  obtain ⟨u, hu⟩ : ∃ u, u = getN k (segOf bs s.at_ l) := ⟨_, rfl⟩
  obtain ⟨b, hbb⟩ : ∃ b, b = isN k (segOf bs s.at_ l) := ⟨_, rfl⟩
  rw [← hu, ← hbb] at hRD hG
  rw [← hbb] at hm
  obtain ⟨i, hi⟩ : ∃ i, i = s.at_ := ⟨_, rfl⟩
  rw [← hi] at l2 hm c1 hG
  have hI := Lib.hid hi
  have H := Lib.hid h
  have hF := Lib.hid hfr
  obtain ⟨k0, hk0⟩ : ∃ k0, k0 = r.length := ⟨_, rfl⟩
  rw [← hk0] at c2 hl hk
  obtain ⟨len, hlen⟩ : ∃ len, len = bs.length := ⟨_, rfl⟩
  rw [← hlen] at l3 l4 c0
  have hlc2 : l ≤ cap := by omega
  clear h hfr hB hp hst hseg l1 hu hi hk0 hlen hbb
  by_cases hci : cap = i
  · rw [if_pos hci] at hG
    have hli : cap = l := by omega
    have hlen : cap = len := by omega
    cases b
    · subst hci hli hlen
      simp only [Nat.sub_self] at hG
      clear hm
      rw [hRD.out, if_neg (by decide)]
      go_enter Tryz.func45, Tryz.ntmps45
      go_wp2
      go_quiet (first
        | (go_at_call 88; exact Calls.quiet_of (rend_cells p g k0 c cap _ hk c2 hl))
        | (go_at_call 89; exact Calls.quiet_of ((hG.out _).mono fun _ _ ⟨he, hw⟩ => ⟨he, 0, hw ▸ rfl⟩)))
      go_wp2_with (go_at_call 90; refine (fail_any p _ _ _ _ (w.drewN _) hP.out).mono ?_; rintro e w' ⟨rfl, rfl⟩)
      go_ret
      exact ref_to_fail H.out _ _
    · have := hm rfl
      omega
  · rw [if_neg hci] at hG
    cases b
    · clear hm
      rw [hRD.out, if_neg (by decide)]
      go_enter Tryz.func45, Tryz.ntmps45
      go_wp2
      go_quiet (first
        | (go_at_call 88; exact Calls.quiet_of (rend_cells p g k0 c l _ hk c2 hl))
        | (go_at_call 89; exact Calls.quiet_of ((hG.out _).mono fun _ _ ⟨he, hw⟩ => ⟨he, 0, hw ▸ rfl⟩)))
      go_wp2_with (go_at_call 90; refine (fail_any p _ _ _ _ (w.drewN _) hP.out).mono ?_; rintro e w' ⟨rfl, rfl⟩)
      go_ret
      exact ref_to_fail H.out _ _
    · have hm := hm rfl
      rw [hRD.out, if_pos rfl]
      go_enter Tryz.func45, Tryz.ntmps45
      go_wp2
      go_quiet (first
        | (go_at_call 88; exact Calls.quiet_of (rend_cells p g k0 c l _ hk c2 hl))
        | (go_at_call 89; exact Calls.quiet_of ((hG.out _).mono fun _ _ ⟨he, hw⟩ => ⟨he, 0, hw ▸ rfl⟩)))
      go_wp2_with (go_at_call 90; refine (fail_any p _ _ _ _ (w.drewN _) hP.out).mono ?_; rintro e w' ⟨rfl, rfl⟩)
      go_ret
      have e := hI.out
      have hx : (i : Int) + (k : Int) = ((s.at_ + k : Nat) : Int) := by omega
      exact ref_to_on H.out hF.out (by omega) _ hx

theorem rfixed_ref {W w : World} {p g : Nat} {bs : List UInt8} {s : St} (k : Nat) (hk1 : 1 ≤ k) (hk8 : k ≤ 8) (h : Ref W w p g bs s) :
    Calls Tryz.prog 45 #[.pointer (some ⟨p, 0, none⟩), .int .i64 (k : Int)] w (RefTo W w p g bs (s.rd (tFix k) 0 bs).2 (.int .u64 (((s.rd (tFix k) 0 bs).1 : Nat) : Int))) := by
  rcases hfr : s.fr with _ | ⟨l, r⟩
  · exact rfixed_none k h hfr
  · exact rfixed_some k hk1 hk8 h hfr
end Go.Proofs.YtpfdnggacpehdaaGreatDoor
