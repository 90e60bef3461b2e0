/- The reference's Nums (whether two lists of numbers are the same) and All (all numbers of bytes): what they return; what was there is as it was. Conditions: those that each theorem names. -/
import Derived.Test.YtgkfmnmfocdhnaaVarF
import Derived.WalkSmall
namespace Go.Proofs.Ytgkfmnmfocdhnaa
open Go.RowKit
open Go.Lib (uvarint)

theorem info_u64 : (Try.prog.info? 22).map (fun i => (i.zero, i.size, i.bytes)) = some (some (.int .u64 0), 1, 8) := by kernel_rfl

theorem below_drewN' {B : Nat} {a w : World} (h : Below B a w) (n : Nat) : Below B a (w.drewN n) := ⟨h.os, h.tape, h.output, h.size, h.block⟩

theorem take_on {l l' : List Nat} {k : Nat} (h : l.take k = l'.take k) (hk : k < l.length) (hk' : k < l'.length) (he : l[k] = l'[k]) : l.take (k + 1) = l'.take (k + 1) := by
  rw [List.take_succ_eq_append_getElem hk, List.take_succ_eq_append_getElem hk', h, he]

set_option maxRecDepth 100000 in
theorem nums_any (A A' : Option Addr) (cap cap' : Nat) (l l' : List Nat) (w : World) (h : Sl w A cap (u64s l)) (h' : Sl w A' cap' (u64s l')) :
    Calls Try.prog 16 #[.slice A l.length cap, .slice A' l'.length cap'] w fun e w' => e = .returned (.bool (decide (l = l'))) ∧ Below w.heap.size w w' := by
  have hle := h.le
  have hmax := h.max
  have hle' := h'.le
  have hmax' := h'.max
  rw [u64s_length] at hle hle'
  unfold maxLen at hmax hmax'
  have H := Lib.hid h
  have H' := Lib.hid h'
  clear h h'
  by_cases hlen : l.length = l'.length
  · have HL := Lib.hid hlen
    obtain ⟨N, hN⟩ : ∃ N, N = l.length := ⟨_, rfl⟩
    rw [← hlen, ← hN]
    rw [← hlen, ← hN] at hle'
    rw [← hN] at hle
    have HN := Lib.hid hN
    clear hN hlen
    go_enter Try.func16, Try.ntmps16
    go_wp2
    go_loopw [5] (fun i wr => ∃ k : Nat, k ≤ N ∧ i = .int .i64 k ∧ Below w.heap.size w wr ∧ Hid (l.take k = l'.take k)) (fun i _ => N - (intOf i).toNat)
    case atStart => exact ⟨0, by omega, rfl, Below.refl _ _, rfl⟩
    case round =>
      obtain ⟨k, hk, rfl, hbel, HT⟩ := hrel
      by_cases hlt : k < N
      · have hkl : k < l.length := by have := HN.out; omega
        have hkl' : k < l'.length := by have := HN.out; have := HL.out; omega
        obtain ⟨b, off, rfl, hc⟩ := (H.out.below hbel (Nat.le_refl _)).lt (j := k) (by rw [u64s_length]; exact hkl)
        obtain ⟨b', off', rfl, hc'⟩ := (H'.out.below hbel (Nat.le_refl _)).lt (j := k) (by rw [u64s_length]; exact hkl')
        rw [show (u64s l)[k]'(by rw [u64s_length]; exact hkl) = .int .u64 (l[k] : Int) by simp [u64s]] at hc
        rw [show (u64s l')[k]'(by rw [u64s_length]; exact hkl') = .int .u64 (l'[k] : Int) by simp [u64s]] at hc'
        obtain ⟨x, hx⟩ : ∃ x, x = l[k] := ⟨_, rfl⟩
        obtain ⟨y, hy⟩ : ∃ y, y = l'[k] := ⟨_, rfl⟩
        rw [← hx] at hc
        rw [← hy] at hc'
        have HX := Lib.hid hx
        have HY := Lib.hid hy
        clear hx hy
        have g1 : (k : Int) < (N : Int) := by omega
        have g0 : (0 : Int) ≤ (k : Int) := by omega
        by_cases hxy : x = y
        · subst hxy
          have HK := Lib.hid (take_on HT.out hkl hkl' (HX.out.symm.trans HY.out))
          go_wp2
          go_quiet (fail)
          go_wp2
          go_roundw
          case rel => exact ⟨k + 1, by omega, by go_num, below_drewN' hbel _, HK.out⟩
          case measure => simp [intOf]; omega
        · have HE : Hid (decide (l = l') = false) := by
            refine decide_eq_false fun e => ?_
            subst e
            exact hxy (HX.out.trans HY.out.symm)
          have g2 : ((x : Int) == (y : Int)) = false := by simp; omega
          have g3 : ((x : Int) != (y : Int)) = true := by simp; omega
          clear hxy
          go_wp2
          go_quiet (fail)
          go_wp2
          go_ret
          exact ⟨by rw [HE.out]; rfl, below_drewN' hbel _⟩
      · have HE : Hid (decide (l = l') = true) := by
          refine decide_eq_true ?_
          have h1 := HT.out
          have h2 := HN.out
          have h3 := HL.out
          rwa [List.take_of_length_le (by omega), List.take_of_length_le (by omega)] at h1
        go_wp2
        go_ret
        exact ⟨by rw [HE.out]; rfl, hbel⟩
  · have HE : Hid (decide (l = l') = false) := decide_eq_false fun e => hlen (by rw [e])
    have g2 : ((l.length : Int) == (l'.length : Int)) = false := by simp; omega
    have g3 : ((l.length : Int) != (l'.length : Int)) = true := by simp; omega
    clear hlen
    go_enter Try.func16, Try.ntmps16
    go_wp2
    go_ret
    exact ⟨by rw [HE.out]; rfl, Below.refl _ _⟩

/-- What All answers. -/
def AllGives (w : World) (bs : List UInt8) (e : Ending) (w' : World) : Prop :=
  ∃ A cap, e = .returned (.tuple #[.slice A (allRes bs).1.length cap, .bool (allRes bs).2]) ∧ Sl w' A cap (u64s (allRes bs).1) ∧ Below w.heap.size w w'
theorem all_gives_own {w w' : World} {v : Value} {bs : List UInt8} {acc : List Nat} {base n : Nat} {t : TypeId} (h : w'.ownsRow base t 1 v n (u64s acc)) (hb : Below w.heap.size w w') (hr : allRes bs = (acc, true)) :
    AllGives w bs (.returned (.tuple #[v, .bool true])) w' := by
  obtain ⟨_, A, cap, rfl, hB⟩ := Sl.own h
  refine ⟨A, cap, ?_, ?_, hb⟩
  · rw [hr, u64s_length]
  · rw [hr]; exact hB
theorem all_gives_none {w w' : World} {bs : List UInt8} (hb : Below w.heap.size w w') (hr : allRes bs = ([], false)) : AllGives w bs (.returned (.tuple #[.slice none 0 0, .bool false])) w' := by
  refine ⟨none, 0, ?_, ?_, hb⟩
  · rw [hr]; rfl
  · rw [hr]; exact sl_nil w'

theorem u64s_snoc (acc : List Nat) (m : Nat) : u64s acc ++ [.int .u64 (m : Int)] = u64s (acc ++ [m]) := by simp [u64s]
theorem one_u64 (x : Int) : ∀ u ∈ [Value.int .u64 x], u.oneCell' = true := by
  intro u hu; simp at hu; subst hu; rfl
theorem own0_u64 (w : World) : (w.alloc (.cells #[] 22)).ownsRow w.heap.size 22 1 (.slice (some ⟨w.heap.size, 0, none⟩) 0 0) 0 (u64s []) :=
  World.ownsRow_made w #[] 0 (Nat.le_refl _) (by decide) rfl

set_option maxRecDepth 100000 in
set_option maxHeartbeats 1000000 in
theorem rall_any (A : Option Addr) (cap : Nat) (bs : List UInt8) (w : World) (hb : Bs w A cap bs) (hbig : bs.length ≤ 1099511627776) :
    Calls Try.prog 15 #[.slice A bs.length cap] w (AllGives w bs) := by
  obtain ⟨i0, hi, hz0, hz1, hz2⟩ := info_parts info_u64
  have HB := Lib.hid hb
  clear hb
  go_enter Try.func15, Try.ntmps15
  go_wp2_with fail
  go_loopg [0, 4] bs.length (fun g s v wr => ∃ (A : Option Addr) (cap : Nat) (rest : List UInt8) (acc : List Nat), rest.length = g ∧ s = .slice A g cap ∧ Bs w A cap rest ∧ wr.ownsRow w.heap.size 22 1 v acc.length (u64s acc) ∧ acc.length + g ≤ bs.length ∧ Below w.heap.size w wr ∧ Hid (allOf bs = (allOf rest).map (acc ++ ·)))
  case atStart => exact ⟨A, cap, bs, [], rfl, rfl, HB.out, own0_u64 w, by simp, (Below.refl _ _).alloc (Nat.le_refl _) _, all_start bs⟩
  case round =>
    obtain ⟨A, cap, rest, acc, hg, rfl, hbs, hown, hlen, hbel, HI⟩ := hrel
    have HG := Lib.hid hg
    clear hg
    by_cases h0 : gk = 0
    · subst h0
      have HE : Hid (allRes bs = (acc, true)) := all_done HI.out (List.eq_nil_of_length_eq_zero HG.out)
      go_wp2_with fail
      go_ret2
      exact all_gives_own hown hbel HE.out
    · have hne : rest ≠ [] := by intro e; have := HG.out; rw [e] at this; simp at this; omega
      have HNE := Lib.hid hne
      have g1 : (0 : Int) < (gk : Int) := by omega
      have hr := rget_n A gk cap rest wr HG.out.symm (hbs.below hbel (Nat.le_refl _))
      have hl := getFrom_le rest
      have h64 := getFrom_u64 rest
      obtain ⟨⟨m, k⟩, hp⟩ : ∃ p, p = getFrom 0 0 rest := ⟨_, rfl⟩
      rw [← hp] at hr hl h64
      simp only at hr hl h64
      have HP := Lib.hid hp.symm
      have HR := Lib.hid hr
      rw [HG.out] at hl
      clear hp hr hne h0
      have hmax := hbs.max
      have hle := hbs.le
      rw [HG.out] at hle
      unfold maxLen at hmax
      by_cases hk : k = 0
      · subst hk
        have HE : Hid (allRes bs = ([], false)) := all_fail HI.out HNE.out (by rw [HP.out])
        go_wp2_with (go_at_call 13; refine HR.out.mono ?_; rintro e w' ⟨rfl, rfl⟩)
        go_ret2
        exact all_gives_none hbel HE.out
      · have g2 : ((k : Int) == 0) = false := by simp; omega
        have HO := Lib.hid (all_on HI.out HNE.out HP.out hk)
        by_cases hck : cap = k
        · subst hck
          have HCUT := Lib.hid (hbs.cut_end (by rw [HG.out]; exact hl))
          go_wp2_with (first
            | (go_at_call 13; refine HR.out.mono ?_; rintro e w' ⟨rfl, rfl⟩)
            | (at_builtin; refine wpList_append_own _ rfl _ _ 32 rfl w.heap.size 22 i0 (.int .u64 0) 1 8 Try.underlying32 hi hz0 hz1 hz2 rfl (by decide) _ _ _ rfl (hown.alloc _) ⟨wr.heap.size, 0, none⟩ 1 1 [.int .u64 (m : Int)] rfl rfl (cell_one_new _ _ _) (one_u64 _) (by unfold maxLen; omega) (by omega) (by have := hbel.size; simp; omega) ?_; intro v2 w2 hown2 hgrow2 _))
          have hb2 : Below w.heap.size w w2 := (hbel.alloc hbel.size _).grown hgrow2 (by have := hbel.size; simp; omega) (fun j hj => (hown.lt j hj).1)
          go_roundg 0
          case measure => omega
          case rel => exact ⟨_, _, rest.drop cap, acc ++ [m], by rw [List.length_drop, HG.out]; omega, rfl, HCUT.out, by rw [← u64s_snoc, List.length_append]; exact hown2, by rw [List.length_append]; simp; omega, hb2, HO.out⟩
        · have HCUT := Lib.hid (hbs.cut_in (by rw [HG.out]; exact hl) hck)
          go_wp2_with (first
            | (go_at_call 13; refine HR.out.mono ?_; rintro e w' ⟨rfl, rfl⟩)
            | (at_builtin; refine wpList_append_own _ rfl _ _ 32 rfl w.heap.size 22 i0 (.int .u64 0) 1 8 Try.underlying32 hi hz0 hz1 hz2 rfl (by decide) _ _ _ rfl (hown.alloc _) ⟨wr.heap.size, 0, none⟩ 1 1 [.int .u64 (m : Int)] rfl rfl (cell_one_new _ _ _) (one_u64 _) (by unfold maxLen; omega) (by omega) (by have := hbel.size; simp; omega) ?_; intro v2 w2 hown2 hgrow2 _))
          have hb2 : Below w.heap.size w w2 := (hbel.alloc hbel.size _).grown hgrow2 (by have := hbel.size; simp; omega) (fun j hj => (hown.lt j hj).1)
          go_roundg (gk - k)
          case measure => omega
          case rel => exact ⟨_, _, rest.drop k, acc ++ [m], by rw [List.length_drop, HG.out], rfl, HCUT.out, by rw [← u64s_snoc, List.length_append]; exact hown2, by rw [List.length_append]; simp; omega, hb2, HO.out⟩

end Go.Proofs.Ytgkfmnmfocdhnaa
