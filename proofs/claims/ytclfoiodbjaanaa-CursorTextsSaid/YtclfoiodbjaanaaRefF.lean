/- The document's cursor: Tag, Close, More, From. -/
import Derived.Test.YtclfoiodbjaanaaRefE
namespace Go.Proofs.Ytclfoiodbjaanaa
open Go.RowKit
set_option linter.unusedVariables false
set_option maxRecDepth 100000

theorem rd_tag_none {bs : List UInt8} {s : St} (h : (s.rd tVar 0 bs).2.fr = []) : s.rd tTag (0, 0) bs = ((0, 0), (s.rd tVar 0 bs).2) := by
  obtain ⟨i, fr⟩ := s
  cases fr with
  | nil => rfl
  | cons l r =>
    unfold St.rd at h ⊢
    dsimp only at h ⊢
    by_cases hz : (tVar (segOf bs i l)).2 = 0
    · have hz2 : (tTag (segOf bs i l)).2 = 0 := by
        unfold tTag
        dsimp only
        split
        · exact hz
        · rfl
      simp only [if_pos hz, if_pos hz2]
    · simp only [if_neg hz] at h
      cases h
theorem rd_tag_some {bs : List UInt8} {s : St} {l : Nat} {r : List Nat} (h : (s.rd tVar 0 bs).2.fr = l :: r) :
    s.rd tTag (0, 0) bs = if splitOk (s.rd tVar 0 bs).1 = true then ((splitN (s.rd tVar 0 bs).1, splitW (s.rd tVar 0 bs).1), (s.rd tVar 0 bs).2) else ((0, 0), St.none) := by
  obtain ⟨i, fr⟩ := s
  cases fr with
  | nil => cases h
  | cons l' r' =>
    unfold St.rd at h ⊢
    dsimp only at h ⊢
    by_cases hz : (tVar (segOf bs i l')).2 = 0
    · simp only [if_pos hz] at h
      cases h
    · simp only [if_neg hz] at h ⊢
      have e : (tVar (segOf bs i l')).1 = (getFrom 0 0 (segOf bs i l')).1 := rfl
      have e2 : (tVar (segOf bs i l')).2 = (getFrom 0 0 (segOf bs i l')).2 := rfl
      rw [e2] at hz
      cases hok : splitOk (getFrom 0 0 (segOf bs i l')).1
      · have e1 : (tTag (segOf bs i l')).2 = 0 := by unfold tTag; simp [hok]
        rw [if_pos e1, if_neg (by rw [e, hok]; decide)]
      · have e1 : (tTag (segOf bs i l')).2 = (getFrom 0 0 (segOf bs i l')).2 := by unfold tTag; simp [hok]
        rw [e1, if_neg hz, if_pos (by rw [e, hok])]
        rfl

theorem rtag_ref {W w : World} {p g : Nat} {bs : List UInt8} {s : St} (h : Ref W w p g bs s) :
    Calls Try.prog 27 #[.pointer (some ⟨p, 0, none⟩)] w (RefTo W w p g bs (s.rd tTag (0, 0) bs).2 (.tuple #[.int .i64 ((s.rd tTag (0, 0) bs).1.1 : Int), .int .i64 ((s.rd tTag (0, 0) bs).1.2 : Int)])) := by
  have hV := Lib.hid (rvarint_ref h)
  have hn64 : (s.rd tVar 0 bs).1 < 18446744073709551616 := by
    unfold St.rd
    split
    · exact (by decide : (0 : Nat) < 18446744073709551616)
    · split
      · exact (by decide : (0 : Nat) < 18446744073709551616)
      · exact tVar_lt _
  have hnone := rd_tag_none (bs := bs) (s := s)
  have hsome := fun l r => rd_tag_some (bs := bs) (s := s) (l := l) (r := r)
  obtain ⟨s1, hs1⟩ : ∃ s1, s1 = (s.rd tVar 0 bs).2 := ⟨_, rfl⟩
  obtain ⟨n, hn⟩ : ∃ n, n = (s.rd tVar 0 bs).1 := ⟨_, rfl⟩
  rw [← hs1] at hV hnone hsome
  rw [← hn] at hV hsome hn64
  have hS := Lib.hid (fun w => rsplit_any n w hn64)
  clear hs1 hn hn64
  obtain ⟨ok, hok⟩ : ∃ ok, ok = splitOk n := ⟨_, rfl⟩
  obtain ⟨x, hx⟩ : ∃ x, x = splitN n := ⟨_, rfl⟩
  obtain ⟨y, hy⟩ : ∃ y, y = splitW n := ⟨_, rfl⟩
  rw [← hok, ← hx, ← hy] at hS hsome
  clear hok hx hy
  rcases hfr : s1.fr with _ | ⟨l, r⟩
  · have e1 := hnone hfr
    have hF := Lib.hid hfr
    rw [e1]
    clear hnone hsome hfr e1 h
    cases ok
    all_goals
      go_enter Try.func27, Try.ntmps27
      go_wp2_with (first
        | (go_at_call 21; refine hV.out.mono ?_; rintro e w1 ⟨rfl, g', hg', hr, ho⟩; obtain ⟨A, cap, hB, hp⟩ := ref_none hr hF.out; have c3 := obj_cell hp 3; have HR := Lib.hid hr; have HO := Lib.hid ho; have HB := Lib.hid hB; clear hp hr ho hB)
        | (go_at_call 51; refine (hS.out _).mono ?_; rintro e w' ⟨rfl, rfl⟩))
      go_ret2
      exact ⟨rfl, g', hg', HR.out, HO.out⟩
  · have e1 := hsome l r hfr
    have hF := Lib.hid hfr
    rw [e1]
    clear hnone hsome hfr e1 h
    cases ok
    · rw [if_neg (by decide)]
      go_enter Try.func27, Try.ntmps27
      go_wp2_with (first
        | (go_at_call 21; refine hV.out.mono ?_; rintro e w1 ⟨rfl, g', hg', hr, ho⟩; obtain ⟨A, cap, c, hB, hp, hst⟩ := ref_some hr hF.out; have c3 := obj_cell hp 3; have HP := Lib.hid hp; have HR := Lib.hid hr; have HO := Lib.hid ho; have HB := Lib.hid hB; clear hp hr ho hB hst)
        | (go_at_call 51; refine (hS.out _).mono ?_; rintro e w' ⟨rfl, rfl⟩)
        | (go_at_call 40; refine (fail_any p _ _ _ _ w1 HP.out).mono ?_; rintro e w2 ⟨rfl, hw2⟩; have hr2 := ref_to_fail HR.out (.tuple #[.int .i64 ((0 : Nat) : Int), .int .i64 ((0 : Nat) : Int)]) 0; have hw2' : failed (w1.drewN 0) p = w2 := hw2; rw [hw2'] at hr2; have hrow := failed_row HP.out; rw [hw2] at hrow; have c3' := obj_cell hrow 3; have HR2 := Lib.hid hr2; clear hw2 hr2 hrow hw2'))
      go_ret2
      exact HR2.out.after HO.out hg'
    · rw [if_pos rfl]
      go_enter Try.func27, Try.ntmps27
      go_wp2_with (first
        | (go_at_call 21; refine hV.out.mono ?_; rintro e w1 ⟨rfl, g', hg', hr, ho⟩; obtain ⟨A, cap, c, hB, hp, hst⟩ := ref_some hr hF.out; have c3 := obj_cell hp 3; have HR := Lib.hid hr; have HO := Lib.hid ho; have HB := Lib.hid hB; clear hp hr ho hB hst)
        | (go_at_call 51; refine (hS.out _).mono ?_; rintro e w' ⟨rfl, rfl⟩))
      go_ret2
      exact ⟨rfl, g', hg', HR.out, HO.out⟩
end Go.Proofs.Ytclfoiodbjaanaa
