/- Several texts in one: RrC. What each proves, and its conditions, stands at its own head. -/
import Derived.Test.YtalbiieagcandaaPkR34
import Derived.Test.YtalbiieagcandaaPkR42
import Derived.Deep.RegionHeld3
/- The document's bytes of right fields. Conditions: those that each theorem names. -/
namespace Go.Proofs.Ytalbiieagcandaa
open Go.RowKit
open Go.Lib (uvarint)
set_option linter.unusedVariables false
set_option maxRecDepth 100000

theorem okR_right {x : Rw} (h : okR x = true) : rightB x.num x.wire = true := by
  unfold okR at h
  exact (Bool.and_eq_true_iff.mp h).1
theorem rbytes_raw (x : Rw) (w : World) (h : okR x = true) (hn : x.n < 18446744073709551616) (hs : x.s.length ≤ 140737488351232) :
    Calls Try.prog 30 #[.int .i64 x.num, .int .i64 x.wire, .int .u64 (x.n : Int), .string (strOf x.s)] w (GivesOwn w (bytesR x)) := by
  have hr := okR_right h
  obtain ⟨num, wire, n, s⟩ := x
  obtain ⟨_, hw⟩ := (rightB_iff _ _).mp hr
  dsimp only at *
  rcases hw with rfl | rfl | rfl | rfl
  · exact rbytes_0 num n _ w hr hn
  · exact rbytes_1 num n _ w hr hn
  · exact rbytes_2 num (n : Int) s w hr hs
  · exact rbytes_5 num n _ w hr hn
theorem bytesR_length {x : Rw} (hn : x.n < 18446744073709551616) (hs : x.s.length ≤ 300) : (bytesR x).length ≤ 330 := by
  have h1 : (uvarint (tagN x.num x.wire)).length ≤ 10 := Lib.uvarint_length64 (by have := tagN_lt x.num x.wire; omega)
  have h2 := Lib.uvarint_length64 hn
  have h3 := Lib.uvarint_length64 (x := x.s.length) (by omega)
  rw [bytesR, List.length_append]
  unfold valR
  split
  · omega
  · split
    · rw [le_length]; omega
    · split
      · rw [le_length]; omega
      · rw [List.length_append]; omega
theorem putR_length : ∀ (l : List Rw), (∀ x ∈ l, x.n < 18446744073709551616 ∧ x.s.length ≤ 300) → (putR l).length ≤ 330 * l.length
  | [], _ => Nat.le_refl _
  | x :: r, h => by
    have h1 := putR_length r (fun y hy => h y (by simp [hy]))
    have h2 := bytesR_length (h x (by simp)).1 (h x (by simp)).2
    rw [putR, List.length_append, List.length_cons]; omega

set_option maxHeartbeats 1000000 in
theorem rput_raw (w : World) {A : Option Addr} {cap n : Nat} {l : List Rw} (h : Raws w A cap l) (hn : n = l.length) (hok : ∀ x ∈ l, okR x = true) (hb : ∀ x ∈ l, x.n < 18446744073709551616 ∧ x.s.length ≤ 300) (hl : l.length ≤ 50) :
    Calls Try.prog 17 #[.slice A n cap] w (GivesOwn w (putR l)) := by
  obtain ⟨i0, hi, hz0, hz1, hz2⟩ := info_parts info_u8
  have hle := h.le
  have hmx := h.max
  rw [← hn] at hle
  have H := Lib.hid h
  have HN := Lib.hid hn
  have HOK := Lib.hid hok
  have HB := Lib.hid hb
  have HL := Lib.hid hl
  have hown0 : (w.alloc (.cells #[] 5)).ownsRow w.heap.size 5 1 (.slice (some ⟨w.heap.size, 0, none⟩) 0 0) 0 (cellsOf (putR (l.take 0))) := ⟨rfl, .inr ⟨w.heap.size, 0, _, rfl, Nat.le_refl _, heap_alloc_new w _, Nat.le_refl _, by decide, rfl, rfl⟩⟩
  have HO := Lib.hid hown0
  clear h hn hok hb hl hown0
  go_enter Try.func17, Try.ntmps17
  go_wp2
  go_loopw [3, 4] (fun v x wr => ∃ (k m : Nat) (vo : Value), k ≤ n ∧ x = .int .i64 (k : Int) ∧ v = vo ∧ wr.ownsRow w.heap.size 5 1 vo m (cellsOf (putR (l.take k))) ∧ Below w.heap.size w wr) (fun _ x _ => n - (intOf x).toNat)
  case atStart => exact ⟨0, 0, _, Nat.zero_le _, rfl, rfl, HO.out, (Below.refl _ _).alloc (Nat.le_refl _) _⟩
  case round =>
    obtain ⟨k, m, vo, hk, rfl, rfl, hown, hbel⟩ := hrel
    have HBE := Lib.hid hbel
    by_cases hlt : k < n
    · have g1 : decide ((k : Int) < (n : Int)) = true := decide_eq_true (by omega)
      obtain ⟨x, hx⟩ : ∃ x, l[k]? = some x := ⟨_, List.getElem?_eq_getElem (by have := HN.out; omega)⟩
      obtain ⟨g, off, rfl, c0, c1, c2, c3⟩ := H.out.at_ k x hx
      have hxm := List.mem_of_getElem? hx
      have hpl := putR_length (l.take k) (fun y hy => HB.out y (List.mem_of_mem_take hy))
      have hpl2 : (putR (l.take k)).length ≤ 16500 := by have := HL.out; rw [List.length_take] at hpl; omega
      have hbl := bytesR_length (HB.out x hxm).1 (HB.out x hxm).2
      have HBY := Lib.hid (fun w => rbytes_raw x w (HOK.out x hxm) (HB.out x hxm).1 (by have := (HB.out x hxm).2; omega))
      obtain ⟨str, hstr⟩ : ∃ str, str = strOf x.s := ⟨_, rfl⟩
      rw [← hstr] at c3 HBY
      obtain ⟨hm, Av, capv, hv, hBs⟩ := Bs.own hown
      subst hv
      have HOWN := Lib.hid hown
      have HPT := Lib.hid (putR_take hx)
      obtain ⟨pre, hpre⟩ : ∃ pre, pre = putR (l.take k) := ⟨_, rfl⟩
      obtain ⟨fb, hfb⟩ : ∃ fb, fb = bytesR x := ⟨_, rfl⟩
      rw [← hpre] at HOWN HPT hpl2 ⊢
      rw [← hfb] at HBY HPT hbl
      have HP2 := Lib.hid hpl2
      have HBL := Lib.hid hbl
      clear hown hbel hx hxm hpl hbl hpl2 hm hBs hpre hfb hstr
      have HCC : Hid (∀ w2, Below w.heap.size w w2 → w2.cell? ⟨g, off + k * 4, none⟩ = some (.int .i64 x.num) ∧ w2.cell? ⟨g, off + k * 4 + 1, none⟩ = some (.int .i64 x.wire) ∧ w2.cell? ⟨g, off + k * 4 + 2, none⟩ = some (.int .u64 (x.n : Int)) ∧ w2.cell? ⟨g, off + k * 4 + 3, none⟩ = some (.string str)) :=
        Lib.hid (fun w2 hb => ⟨(hb.cell (p := ⟨g, off + k * 4, none⟩) (lt_of_cell c0)).trans c0, (hb.cell (p := ⟨g, off + k * 4 + 1, none⟩) (lt_of_cell c1)).trans c1, (hb.cell (p := ⟨g, off + k * 4 + 2, none⟩) (lt_of_cell c2)).trans c2, (hb.cell (p := ⟨g, off + k * 4 + 3, none⟩) (lt_of_cell c3)).trans c3⟩)
      clear c0 c1 c2 c3
      obtain ⟨c0, c1, c2, c3⟩ := HCC.out wr HBE.out
      go_wp2
      go_region_held3 (fun w' => w'.cell? ⟨g, off + k * 4, none⟩ = some (.int .i64 x.num) ∧ w'.cell? ⟨g, off + k * 4 + 1, none⟩ = some (.int .i64 x.wire) ∧ w'.cell? ⟨g, off + k * 4 + 2, none⟩ = some (.int .u64 (x.n : Int)) ∧ w'.cell? ⟨g, off + k * 4 + 3, none⟩ = some (.string str))
        (first | exact HC3.out | exact HC2.out | exact ⟨c0, c1, c2, c3⟩)
        (first
          | (go_at_call 30
             refine (HBY.out _).mono ?_
             rintro e w2 ⟨v2, n2, rfl, ho2, hb2⟩
             obtain ⟨hn2, A2, cap2, hv2, hBs2⟩ := Bs.own ho2
             subst hv2
             have HB2 := Lib.hid hb2
             have HBS2 := Lib.hid hBs2
             have hbw : Below wr.heap.size wr w2 := (Below.refl _ wr).drew.trans hb2
             have HBE2 := Lib.hid (HBE.out.trans (hbw.mono HBE.out.size))
             have HC2 := Lib.hid (HCC.out _ HBE2.out)
             have hown2 := own_below HOWN.out hbw
             have HOWN2 := Lib.hid hown2
             clear ho2 hb2 hBs2 hown2 hn2 hbw)
          | (refine step_append_bs rfl _ _ (by rfl) (by rfl) HOWN2.out (by rfl) HBS2.out rfl (by have := HP2.out; have := HBL.out; omega) HBE2.out.size ?_
             intro v3 w3 ho3 hg3
             have HO3 := Lib.hid ho3
             have HBE3 := Lib.hid (HBE2.out.grown hg3 HBE2.out.size (fun j hj => (HOWN2.out.lt j hj).1))
             have HC3 := Lib.hid (HCC.out _ HBE3.out)
             have HG3 := Lib.hid hg3
             clear ho3 hg3))
      go_wp2
      go_roundw
      case rel => exact ⟨k + 1, _, _, by omega, by go_num, rfl, by rw [HPT.out]; exact HO3.out, HBE3.out⟩
      case measure => simp [intOf]; omega
    · have g1 : decide ((k : Int) < (n : Int)) = false := decide_eq_false (by omega)
      have e : l.take k = l := List.take_of_length_le (by have := HN.out; omega)
      rw [e] at hown
      have HOW := Lib.hid hown
      clear hown hbel e
      go_wp2
      go_ret
      exact ⟨_, m, rfl, HOW.out, HBE.out⟩
end Go.Proofs.Ytalbiieagcandaa
