/- varint.All: all numbers of bytes, by a labelled loop: what it returns; what was there is as it was. Condition: fewer bytes than 2 to the 40. -/
import Derived.Test.YtgkfmnmfocdhnaaVarG
namespace Go.Proofs.Ytgkfmnmfocdhnaa
open Go.RowKit
open Go.Lib (uvarint)

theorem ret_slice {A : Option Addr} {n m c : Nat} (h : n = m) : Value.slice A n c = Value.slice A m c := by rw [h]

set_option maxRecDepth 100000 in
set_option maxHeartbeats 2000000 in
theorem all_any (A : Option Addr) (cap : Nat) (bs : List UInt8) (w : World) (hb : Bs w A cap bs) (hbig : bs.length ≤ 1099511627776) :
    Calls Try.prog 14 #[.slice A bs.length cap] w (AllGives w bs) := by
  obtain ⟨i0, hi, hz0, hz1, hz2⟩ := info_parts info_u64
  have HB := Lib.hid hb
  clear hb
  go_enter Try.func14, Try.ntmps14
  go_wp2
  go_step3
  go_wp2
  go_step3
  go_wp2
  go_loopg [0, 4] bs.length (fun g s v wr => ∃ (A : Option Addr) (cap : Nat) (rest : List UInt8) (acc : List Nat), rest.length = g ∧ s = .slice A g cap ∧ Bs w A cap rest ∧ wr.ownsRow w.heap.size 22 1 v acc.length (u64s acc) ∧ acc.length + g ≤ bs.length ∧ Below w.heap.size w wr ∧ Hid (allOf bs = (allOf rest).map (acc ++ ·)))
  case atStart => exact ⟨A, cap, bs, [], rfl, rfl, HB.out, World.ownsRow_nil _ _ _ _, by simp, Below.refl _ _, all_start bs⟩
  case round =>
    obtain ⟨A, cap, rest, acc, hg, rfl, hbs, hown, hlen, hbel, HI⟩ := hrel
    obtain ⟨G, hG⟩ : ∃ G, G = gk := ⟨_, rfl⟩
    subst hG
    have HG := Lib.hid hg
    clear hg
    by_cases h0 : G = 0
    · subst h0
      have HE : Hid (allRes bs = (acc, true)) := all_done HI.out (List.eq_nil_of_length_eq_zero HG.out)
      go_wp2_with fail
      rw [Exit.noGoto_ret]
      go_ret2
      exact all_gives_own hown hbel HE.out
    · have hne : rest ≠ [] := by intro e; have := HG.out; rw [e] at this; simp at this; omega
      have HNE := Lib.hid hne
      have g1 : (0 : Int) < (G : Int) := by omega
      have g0 : decide (0 < G) = true := decide_eq_true (by omega)
      clear hne h0
      have hmax := hbs.max
      have hle := hbs.le
      rw [HG.out] at hle
      unfold maxLen at hmax
      obtain ⟨M, hM⟩ : ∃ M : Nat, M = min G 10 := ⟨_, rfl⟩
      have m1 : min (G : Int) 10 = (M : Int) := by omega
      have m2 : max (M : Int) 0 = (M : Int) := by omega
      have hMl : M ≤ G := by omega
      have hM10 : M ≤ 10 := by omega
      have HM := Lib.hid hM
      clear hM
      go_wp2_with fail
      go_loopg [0, 4, 5, 17] M (fun g s v n i wy => ∃ k x : Nat, s = .slice A G cap ∧ wy.ownsRow w.heap.size 22 1 v acc.length (u64s acc) ∧ k + g = M ∧ x < 128 ^ k ∧ i = .int .i64 k ∧ n = .int .u64 x ∧ Hid (getFrom 0 0 rest = getFrom k x (rest.drop k)) ∧ wr = wy)
      case atStart => exact ⟨0, 0, rfl, hown, by omega, by decide, rfl, rfl, rfl, rfl⟩
      case round =>
        clear hown
        obtain ⟨k, x, rfl, hown, hkg, hx, rfl, rfl, HR, rfl⟩ := hrel
        by_cases hlt : k < M
        · have hlt' : (k : Int) < (M : Int) := by omega
          have hkl : k < rest.length := by have := HG.out; omega
          obtain ⟨b, off, rfl, hcell⟩ := (hbs.below hbel (Nat.le_refl _)).lt hkl
          obtain ⟨c, hc⟩ : ∃ c : UInt8, c = rest[k] := ⟨_, rfl⟩
          rw [← hc] at hcell
          have hd : rest.drop k = c :: rest.drop (k + 1) := by rw [hc]; exact List.drop_eq_getElem_cons hkl
          have HD := Lib.hid hd
          clear hd hc
          have hc256 : c.toNat < 256 := c.toNat_lt
          have hor := or_join (c := c.toNat) (show k ≤ 9 by omega) hx
          have hpt := pt_lt k c.toNat
          by_cases he : endsB k c.toNat = true
          · have HS := Lib.hid ((HR.out.trans (by rw [HD.out])).trans (ends_step (acc := x) (cs := rest.drop (k + 1)) (show k ≤ 9 by omega) he))
            have HO := Lib.hid (all_on HI.out HNE.out HS.out (by omega))
            have hx64 : x + pt k c.toNat < 18446744073709551616 := by have := getFrom_u64 rest; rw [HS.out] at this; exact this
            clear hx
            by_cases hck : cap = k + 1
            · subst hck
              have HCUT := Lib.hid (hbs.cut_end (by rw [HG.out]; omega))
              go_wp2_with (first
              | (go_at_call 17; refine (part_any _ _ _ (by omega) hc256).mono ?_; rintro e w' ⟨rfl, rfl⟩)
              | (go_at_call 18; refine (ends_any _ _ _).mono ?_; rintro e w' ⟨rfl, rfl⟩)
              | (at_builtin; refine wpList_append_own _ rfl _ _ 32 rfl w.heap.size 22 i0 (.int .u64 0) 1 8 Try.underlying32 hi hz0 hz1 hz2 rfl (by decide) _ _ _ rfl (hown.alloc _) ⟨wr.heap.size, 0, none⟩ 1 1 [.int .u64 ((x : Int) + (pt k c.toNat : Int))] rfl rfl (cell_one_new _ _ _) (one_u64 _) (by unfold maxLen; omega) (by omega) (by have := hbel.size; simp; omega) ?_; intro v2 w2 hown2 hgrow2 _))
              have hb2 : Below w.heap.size w w2 := (hbel.alloc hbel.size _).grown hgrow2 (by have := hbel.size; simp; omega) (fun j hj => (hown.lt j hj).1)
              go_roundg 0
              case measure => omega
              case rel => exact ⟨_, _, rest.drop (k + 1), acc ++ [x + pt k c.toNat], by rw [List.length_drop, HG.out]; omega, rfl, HCUT.out, by rw [← u64s_snoc, List.length_append, Int.natCast_add]; exact hown2, by rw [List.length_append]; simp; omega, hb2, HO.out⟩
            · have HCUT := Lib.hid (hbs.cut_in (k := k + 1) (by rw [HG.out]; omega) hck)
              go_wp2_with (first
              | (go_at_call 17; refine (part_any _ _ _ (by omega) hc256).mono ?_; rintro e w' ⟨rfl, rfl⟩)
              | (go_at_call 18; refine (ends_any _ _ _).mono ?_; rintro e w' ⟨rfl, rfl⟩)
              | (at_builtin; refine wpList_append_own _ rfl _ _ 32 rfl w.heap.size 22 i0 (.int .u64 0) 1 8 Try.underlying32 hi hz0 hz1 hz2 rfl (by decide) _ _ _ rfl (hown.alloc _) ⟨wr.heap.size, 0, none⟩ 1 1 [.int .u64 ((x : Int) + (pt k c.toNat : Int))] rfl rfl (cell_one_new _ _ _) (one_u64 _) (by unfold maxLen; omega) (by omega) (by have := hbel.size; simp; omega) ?_; intro v2 w2 hown2 hgrow2 _))
              have hb2 : Below w.heap.size w w2 := (hbel.alloc hbel.size _).grown hgrow2 (by have := hbel.size; simp; omega) (fun j hj => (hown.lt j hj).1)
              go_roundg (G - (k + 1))
              case measure => omega
              case rel => exact ⟨_, _, rest.drop (k + 1), acc ++ [x + pt k c.toNat], by rw [List.length_drop, HG.out], ret_slice (by omega), HCUT.out, by rw [← u64s_snoc, List.length_append, Int.natCast_add]; exact hown2, by rw [List.length_append]; simp; omega, hb2, HO.out⟩
          · have he' : endsB k c.toNat = false := by simpa using he
            clear he
            have HS := Lib.hid (more_step (cs := rest.drop (k + 1)) (show k ≤ 9 by omega) hx he')
            clear hx
            cases hgk : gk with
            | zero => omega
            | succ g2 =>
              go_wp2_with (first
              | (go_at_call 17; refine (part_any _ _ _ (by omega) hc256).mono ?_; rintro e w' ⟨rfl, rfl⟩)
              | (go_at_call 18; refine (ends_any _ _ _).mono ?_; rintro e w' ⟨rfl, rfl⟩))
              go_roundg g2
              case measure => omega
              case rel => exact ⟨k + 1, x + pt k c.toNat, rfl, hown, by omega, HS.out.2, by go_num, by go_num, by show _ = _; rw [HR.out, HD.out, HS.out.1], rfl⟩
        · have hlt' : ¬ (k : Int) < (M : Int) := by omega
          have HE : Hid (allRes bs = ([], false)) := by
            refine all_fail HI.out HNE.out ?_
            rw [HR.out]
            by_cases h10 : 10 ≤ k
            · rw [getFrom_ten _ _ _ h10]
            · have := HG.out; have := HM.out
              rw [List.drop_eq_nil_of_le (by omega)]; rfl
          go_wp2_with fail
          go_ret2
          exact all_gives_none hbel HE.out

end Go.Proofs.Ytgkfmnmfocdhnaa
