/- The program's layer 8: Get, by a range over a text's runes. Conditions: those that each theorem names. -/
import Derived.Test.YtfmhpicnajeflaaHxP
import Derived.Test.YtfmhpicnajeflaaHxW
import Derived.Test.YtfmhpicnajeflaaHexRow
import Derived.Test.YtfmhpicnajeflaaHexLaw
import Derived.Laws.RangeAny
import Derived.Laws.MakeOwn
import Derived.Lib.OthersKept
import Derived.LoopTactic
namespace Go.Proofs.Ytfmhpicnajeflaa
open Go.RowKit
set_option linter.unusedVariables false
set_option maxRecDepth 100000

theorem row_bs {w : World} {g : Nat} {bs : List UInt8} (h : w.heap[g]? = some (.cells (cellsOf bs).toArray 5 (0, 0))) (hm : bs.length ≤ maxLen) : Bs w (some ⟨g, 0, none⟩) bs.length bs := by
  refine ⟨Nat.le_refl _, hm, (fun h => by cases h), fun j c hj => ⟨_, _, rfl, ?_⟩⟩
  rw [cell_of_row _ g (0 + j) _ _ (0, 0) h, Nat.zero_add]
  simp [cellsOf, hj]
theorem made_row (m : Nat) : madeCells #[.int .u8 0] (m * 1) = (cellsOf (rowL [] 0 m)).toArray := by
  rw [rowL_zero]
  apply Array.ext'
  apply List.ext_getElem
  · simp [cellsOf, size_madeCells]
  · intro i h1 h2
    simp [madeCells, cellsOf, Nat.mod_one]
set_option maxHeartbeats 1000000 in
theorem hexget_any (w : World) (t : List UInt8) (hl : t.length ≤ 140737488351232) :
    Calls Try.prog 6 #[.string (strOf t)] w fun e w' => Below w.heap.size w w' ∧ ((∃ bs A cap, unhex t = some bs ∧ e = .returned (.tuple #[.slice A bs.length cap, .bool true]) ∧ Bs w' A cap bs) ∨ (unhex t = none ∧ ∃ A cap, e = .returned (.tuple #[.slice A 0 cap, .bool false]) ∧ Bs w' A cap [])) := by
  obtain ⟨i0, hi, hz0, hz1, hz2⟩ := info_parts info_u8
  obtain ⟨n, hn⟩ : ∃ n, n = t.length := ⟨_, rfl⟩
  obtain ⟨str, hstr⟩ : ∃ str, str = strOf t := ⟨_, rfl⟩
  have hsz : str.size = n := by rw [hstr, str_size, hn]
  rw [← hn] at hl
  rw [← hstr]
  by_cases hodd : n % 2 = 1
  · have g0 : ((n : Int)).tmod 2 = 1 := by rw [Int.tmod_eq_emod_of_nonneg (by omega)]; omega
    have HU := Lib.hid (unhex_odd t (by rw [← hn]; exact hodd))
    clear hn hstr hi hz0 hz1 hz2
    go_enter Try.func6, Try.ntmps6
    go_wp2
    go_ret2
    exact ⟨Below.refl _ _, .inr ⟨HU.out, _, _, rfl, bs_nil _⟩⟩
  · obtain ⟨m, hm⟩ : ∃ m, m = n / 2 := ⟨_, rfl⟩
    have g0 : ((n : Int)).tmod 2 = 0 := by rw [Int.tmod_eq_emod_of_nonneg (by omega)]; omega
    have g1 : ((n : Int)).tdiv 2 = (m : Int) := by rw [Int.tdiv_eq_ediv_of_nonneg (by omega)]; omega
    have hmk : (Instr.makeSlice 22 (.int .i64 (m : Int)) (.int .i64 (m : Int))).run Try.prog w = .ok (.slice (some ⟨w.heap.size, 0, none⟩) m m) (w.alloc (.cells (cellsOf (rowL t 0 m)).toArray 5)) := by
      have := run_make (P := Try.prog) w 22 5 i0 (.int .u8 0) Try.underlying22 hi hz0 .i64 .i64 (m : Int) (m : Int) (by omega) (Int.le_refl _) (by rw [hz2]; omega) (by omega)
      rw [this, hz1]
      simp only [Int.toNat_natCast]
      rw [show madeCells (Value.int .u8 0).cells (m * 1) = (cellsOf (rowL t 0 m)).toArray from by rw [rowL_zero, ← rowL_zero []]; exact made_row m]
    have gw : IntKind.i64.wrap (m : Int) = (m : Int) := IntWalk.i64_in _ (by omega)
    have HN := Lib.hid hn
    have HST := Lib.hid hstr
    have HEV := Lib.hid hodd
    have HM := Lib.hid hm
    clear hn hstr hodd hm hi hz0 hz1 hz2
    go_enter Try.func6, Try.ntmps6
    go_wp2
    go_loopw [] (fun wr => ∃ k : Nat, k ≤ n ∧ wr.heap[w.heap.size]? = some (.cells (cellsOf (rowL t k m)).toArray 5 (0, 0)) ∧ wr.heap[w.heap.size + 1]? = some (.stringIter str k) ∧ Below w.heap.size w wr ∧ ∀ i, i < k → 0 ≤ dv (t.getD i 0)) (fun wr => n - wr.iterPos (w.heap.size + 1))
    case atStart =>
      refine ⟨0, Nat.zero_le _, ?_, ?_, ((Below.refl _ w).alloc (Nat.le_refl _) _).alloc (by simp) _, fun i hi => by omega⟩
      · have h1 := heap_alloc_new w (.cells (cellsOf (rowL t 0 m)).toArray 5)
        have h2 := Lib.alloc_old (w.alloc (.cells (cellsOf (rowL t 0 m)).toArray 5)) (.stringIter str 0) w.heap.size (by simp)
        exact h2.trans h1
      · have := World.iter_heap (w.alloc (.cells (cellsOf (rowL t 0 m)).toArray 5)) str 0
        simpa using this
    case round =>
      obtain ⟨k, hk, hrow, hit, hbel, hgood⟩ := hrel
      by_cases hp : k < n
      · have hps : k < str.size := by omega
        obtain ⟨c, hc⟩ : ∃ c, t[k]? = some c := ⟨_, List.getElem?_eq_getElem (by have := HN.out; omega)⟩
        have hcd : t.getD k 0 = c := by simp [List.getD, hc]
        have hsc : str[k]'hps = c := by
          obtain ⟨h1, h2⟩ := List.getElem?_eq_some_iff.mp hc
          have := HST.out
          subst this
          exact h2
        have hcn := c.toNat_lt
        have hnx : ∀ ty, (Instr.next (.pointer (some ⟨w.heap.size + 1, 0, none⟩)) true ty).run Try.prog wr = _ := fun ty => Lib.run_next_any_at wr (w.heap.size + 1) str k ty hit hps
        by_cases hd : 0 ≤ dv c
        · have h128 : c.toNat < 128 := by unfold dv at hd; split at hd; omega; split at hd <;> omega
          have hdec : Utf8.decode str k = (c.toNat, 1) := by rw [decode_ascii str k hps (by rw [hsc]; exact h128), hsc]
          rw [hdec] at hnx
          have hit2 := Lib.iterAt_heap wr (w.heap.size + 1) str k (k + 1) hit
          have hrow2 := (Lib.iterAt_other wr (w.heap.size + 1) w.heap.size str (k + 1) (by omega)).trans hrow
          have hbel2 := Lib.below_iterAt hbel (k := w.heap.size + 1) (by omega) str (k + 1)
          have HW := Lib.hid (fun w => worth_good c hd w)
          obtain ⟨wi, hwi⟩ : ∃ wi, wi = wr.iterAt (w.heap.size + 1) str (k + 1) := ⟨_, rfl⟩
          simp only [← hwi] at hnx hit2 hrow2 hbel2
          have hgk : ∀ i, i ≤ k → 0 ≤ dv (t.getD i 0) := fun i hi => by
            rcases Nat.lt_or_ge i k with h | h
            · exact hgood i h
            · obtain rfl : i = k := by omega
              rw [hcd]; exact hd
          have hrc := rowC_next t k c hcd hgk
          have hkm : k / 2 < m := by have := HM.out; have := HEV.out; omega
          have hgt := rowL_get t k m hkm
          have hnext := rowL_next t k m
          obtain ⟨v, hv⟩ : ∃ v, v = dv c := ⟨_, rfl⟩
          obtain ⟨o, ho⟩ : ∃ o, o = rowC t k (k / 2) := ⟨_, rfl⟩
          obtain ⟨x, hx⟩ : ∃ x, x = rowC t (k + 1) (k / 2) := ⟨_, rfl⟩
          rw [← hx, ← ho, ← hv] at hrc
          rw [← ho] at hgt
          rw [← hx] at hnext
          rw [← hv] at HW
          have hvl := dv_lt c
          rw [← hv] at hvl
          have hon := o.toNat_lt
          have hxn := x.toNat_lt
          have em : IntKind.u8.wrap ((o.toNat : Int) * 16) = (o.toNat : Int) * 16 := by rw [IntKind.wrap_u8]; omega
          have ea : IntKind.u8.wrap ((o.toNat : Int) * 16 + v) = (x.toNat : Int) := by rw [IntKind.wrap_u8]; omega
          have cq : wi.cell? ⟨w.heap.size, k / 2, none⟩ = some (.int .u8 (o.toNat : Int)) := by
            rw [cell_of_row _ w.heap.size (k / 2) _ _ (0, 0) hrow2]
            simp [cellsOf, hgt]
          have fq : wi.frozen? ⟨w.heap.size, k / 2, none⟩ = false := by simp [World.frozen?, hrow2]
          have HROW := Lib.hid hrow2
          have HIT := Lib.hid hit2
          have HBE := Lib.hid hbel2
          have HGK := Lib.hid hgk
          have HNX := Lib.hid hnext
          have HITR := Lib.hid hit
          clear hrow2 hit2 hbel2 hgk hnext hrow hit hbel hgood hd hdec hsc hcd hc hgt hrc ho hx hv hvl hwi h128 hcn
          go_wp2_with (first
            | (go_at_call 12; refine (HW.out _).mono ?_; rintro e w2 ⟨rfl, rfl⟩; clear HW))
          have hit3 : (wi.setCell ⟨w.heap.size, k / 2, none⟩ (.int .u8 (x.toNat : Int))).heap[w.heap.size + 1]? = some (.stringIter str (k + 1)) := (Below.heap_setCell _ _ _ _ (by simp)).trans HIT.out
          refine ⟨⟨k + 1, by omega, ?_, hit3, HBE.out.setCell (p := ⟨w.heap.size, k / 2, none⟩) (Nat.le_refl _) _, fun i hi => HGK.out i (by omega)⟩, ?_⟩
          · rw [HNX.out]
            simp only [World.setCell, Array.getElem?_modify, HROW.out, if_true, Option.map_some]
            simp [cellsOf, List.map_set]
          · simp only [World.iterPos, hit3, HITR.out]
            omega
        · have hbad : unhex t = none := unhex_bad t k (by have := HN.out; omega) (by have := HN.out; have := HEV.out; omega) (by rw [hcd]; omega)
          have HU := Lib.hid hbad
          obtain ⟨r, wd, hdec, hr1, hr2, hr3⟩ : ∃ r wd, Utf8.decode str k = (r, wd) ∧ ¬ (48 ≤ r ∧ r ≤ 57) ∧ ¬ (97 ≤ r ∧ r ≤ 102) ∧ r ≤ 2147483647 := by
            refine ⟨(Utf8.decode str k).1, (Utf8.decode str k).2, rfl, ?_, ?_, decode_le str k⟩
            · by_cases h128 : c.toNat < 128
              · rw [decode_ascii str k hps (by rw [hsc]; exact h128), hsc]
                intro h
                apply hd
                unfold dv
                rw [if_pos h]
                omega
              · have := (decode_high str k hps (by rw [hsc]; omega)).1
                omega
            · by_cases h128 : c.toNat < 128
              · rw [decode_ascii str k hps (by rw [hsc]; exact h128), hsc]
                intro h
                apply hd
                unfold dv
                rw [if_neg (by simp only [] at h; omega), if_pos h]
                omega
              · have := (decode_high str k hps (by rw [hsc]; omega)).1
                omega
          rw [hdec] at hnx
          have HW := Lib.hid (fun w => worth_bad r hr1 hr2 hr3 w)
          have HBE := Lib.hid (Lib.below_iterAt hbel (k := w.heap.size + 1) (by omega) str (k + wd))
          clear hbad hdec hr1 hr2 hrow hit hbel hgood hd hsc hcd hc
          go_wp2_with (first
            | (go_at_call 12; refine (HW.out _).mono ?_; rintro e w2 ⟨rfl, rfl⟩; clear HW))
          go_ret2
          exact ⟨HBE.out, .inr ⟨HU.out, _, _, rfl, bs_nil _⟩⟩
      · obtain rfl : k = n := by omega
        have hnx : ∀ ty, (Instr.next (.pointer (some ⟨w.heap.size + 1, 0, none⟩)) true ty).run Try.prog wr = _ := fun ty => Lib.run_next_end_at wr (w.heap.size + 1) str k ty hit (by omega)
        have hm2 : k = 2 * m := by have := HM.out; have := HEV.out; omega
        have hall := rowL_all t m (by have := HN.out; omega) (fun i hi => hgood i (by have := HN.out; omega))
        rw [← hm2] at hall
        have hB := row_bs hrow (by rw [rowL_length]; unfold maxLen; omega)
        rw [rowL_length] at hB
        have HA := Lib.hid hall
        have HBS := Lib.hid hB
        have HBE := Lib.hid hbel
        have HRL := Lib.hid (rowL_length t k m)
        clear hm2 hall hB hrow hit hbel hgood
        go_wp2
        go_ret2
        exact ⟨HBE.out, .inl ⟨_, _, _, HA.out, by rw [HRL.out]; rfl, HBS.out⟩⟩
theorem hex_ok : HexOk 70368744177664 := ⟨fun w A cap n bs hb hn hl => hexput_any w hb hn hl, fun w t ht => hexget_any w t ht⟩
theorem hexputs_u (w : World) (A : Option Addr) (cap : Nat) (bs : List UInt8) (hb : Bs w A cap bs) (hr : bs.length ≤ 1048576) :
    Calls Try.prog 3 #[.slice A bs.length cap] w fun e w' => e = .returned (.bool true) ∧ Below w.heap.size w w' :=
  hexputs_walk hex_ok (by decide) w A cap bs hb (by omega) (by omega)
theorem hexjoins_u (w : World) (A : Option Addr) (cap : Nat) (xs : List UInt8) (hb : Bs w A cap xs) (hr : xs.length ≤ 1048576) (A' : Option Addr) (cap' : Nat) (ys : List UInt8) (hb' : Bs w A' cap' ys) (hr' : ys.length ≤ 1048576) :
    Calls Try.prog 5 #[.slice A xs.length cap, .slice A' ys.length cap'] w fun e w' => e = .returned (.bool true) ∧ Below w.heap.size w w' :=
  hexjoins_walk hex_ok (by decide) w A cap xs hb A' cap' ys hb' (by omega) (by omega)
end Go.Proofs.Ytfmhpicnajeflaa
