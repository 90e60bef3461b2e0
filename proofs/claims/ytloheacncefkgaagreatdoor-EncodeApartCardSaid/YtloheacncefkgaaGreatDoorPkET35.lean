/- Several texts in one: RrC, RuA. What each proves, and its conditions, stands at its own head. -/
import Derived.Test.YtloheacncefkgaaGreatDoorPkET30
import Derived.Test.YtloheacncefkgaaGreatDoorPkET34
import Derived.Test.YtloheacncefkgaaGreatDoorPkET5
import Derived.Test.YtloheacncefkgaaGreatDoorPkET0
import Derived.Deep.AppendLies
import Derived.Lib.AppendStr
import Derived.IntWalk
import Derived.Test.YtloheacncefkgaaGreatDoorPkET9
import Derived.Test.YtloheacncefkgaaGreatDoorChecked
import Derived.WalkKit
import Derived.OwnWalk
import Derived.RowKitTokens
import Derived.Lib.Hide
import Derived.Deep.RegionHeld3
import Derived.Test.YtloheacncefkgaaGreatDoorPkET27
import Derived.Test.YtloheacncefkgaaGreatDoorPkET4
import Derived.Test.YtloheacncefkgaaGreatDoorPkET21
import Derived.Test.YtloheacncefkgaaGreatDoorPkET20
import Derived.BigQuiet
import Derived.Deep.QuietTactic
/- The document's bytes of right fields. Conditions: those that each theorem names. -/
namespace Go.Proofs.YtloheacncefkgaaGreatDoor
open Go.RowKit
open Go.Lib (uvarint)
set_option linter.unusedVariables false
set_option maxRecDepth 100000

theorem okR_right {x : Rw} (h : okR x = true) : rightB x.num x.wire = true := by
  unfold okR at h
  exact (Bool.and_eq_true_iff.mp h).1
end Go.Proofs.YtloheacncefkgaaGreatDoor

/- The document's layer 21: Pack. Conditions: those that each theorem names. -/
namespace Go.Proofs.YtloheacncefkgaaGreatDoor
open Go.RowKit
set_option linter.unusedVariables false
set_option maxRecDepth 100000

theorem flatm_take {α β : Type} {g : α → List β} {l : List α} {k : Nat} {x : α} (h : l[k]? = some x) : (l.take (k + 1)).flatMap g = (l.take k).flatMap g ++ g x := by
  rw [List.take_add_one, h, List.flatMap_append]
  show _ ++ (g x ++ []) = _
  rw [List.append_nil]
theorem wire_ways (ty : Int) (n : Nat) : (wireT ty = 1 ∧ wireB ty n = le 8 (toT ty n)) ∨ (wireT ty = 5 ∧ wireB ty n = le 4 (toT ty n)) ∨ ((wireT ty == 1) = false ∧ (wireT ty == 5) = false ∧ wireB ty n = Lib.uvarint (toT ty n)) := by
  unfold wireB
  by_cases h1 : wireT ty = 1
  · rw [if_pos h1]; exact .inl ⟨h1, rfl⟩
  · rw [if_neg h1]
    by_cases h5 : wireT ty = 5
    · rw [if_pos h5]; exact .inr (.inl ⟨h5, rfl⟩)
    · rw [if_neg h5]; exact .inr (.inr ⟨beq_false_of_ne h1, beq_false_of_ne h5, rfl⟩)
set_option maxHeartbeats 2000000 in
theorem rupack_any (f : Fd) (w : World) {A : Option Addr} {cap n : Nat} {l : List Nat} (h : Sl w A cap (u64s l)) (hn : n = l.length) (hl : l.length ≤ 1000000000000) (hb : ∀ x ∈ l, x < 18446744073709551616) :
    Calls Tryz.prog 16 #[fdV f, .slice A n cap] w fun e w' => e = .returned (.string (strOf (packB f l))) ∧ Below w.heap.size w w' := by
  obtain ⟨i0, hi, hz0, hz1, hz2⟩ := info_parts info_u8
  have q1 := h.le
  have q2 := h.max
  unfold maxLen at q2
  rw [u64s_length, ← hn] at q1
  have HN := Lib.hid hn
  have HM := Lib.hid (fun u => rsnumber_any f.ty u)
  have HWI := Lib.hid (fun u => rswire_any f.ty u)
  have HTO := Lib.hid (fun x u (hx : x < 18446744073709551616) => rnto_any f.ty x u hx)
  have HPK : Hid (packB f l = if numberT f.ty = true then l.flatMap (wireB f.ty) else []) := Lib.hid rfl
  have HS := Lib.hid h
  have HL := Lib.hid hl
  have HBN := Lib.hid hb
  clear h hn hl hb
  obtain ⟨name, num, ty, ref, rep, loose, one⟩ := f
  unfold fdV
  dsimp only at HM HWI HTO HPK ⊢
  obtain ⟨sn, hsn⟩ : ∃ sn, sn = strOf name := ⟨_, rfl⟩
  obtain ⟨sr, hsr⟩ : ∃ sr, sr = strOf ref := ⟨_, rfl⟩
  obtain ⟨so, hso⟩ : ∃ so, so = strOf one := ⟨_, rfl⟩
  rw [← hsn, ← hsr, ← hso]
  obtain ⟨pk, hpk⟩ : ∃ pk, pk = packB ⟨name, num, ty, ref, rep, loose, one⟩ l := ⟨_, rfl⟩
  rw [← hpk] at HPK ⊢
  clear hsn hsr hso hpk
  obtain ⟨bx, hbx⟩ : ∃ bx, bx = Obj.cells #[.string sn, .int .i64 num, .int .i64 ty, .string sr, .bool rep, .bool loose, .string so] 44 (0, 0) := ⟨_, rfl⟩
  obtain ⟨w1, hw1⟩ : ∃ w1, w1 = w.alloc bx := ⟨_, rfl⟩
  have hsz1 : w1.heap.size = w.heap.size + 1 := by rw [hw1, World.size_alloc]
  have HB1 : Hid (Below w.heap.size w w1) := Lib.hid (by rw [hw1]; exact (Below.refl _ w).alloc (Nat.le_refl _) _)
  have hc1 : w1.heap[w.heap.size]? = some bx := by rw [hw1, hbx]; exact heap_alloc_new w _
  rw [hbx] at hc1 hw1
  have HTY : Hid (∀ u, Below (w.heap.size + 1) w1 u → u.cell? ⟨w.heap.size, 2, none⟩ = some (.int .i64 ty)) := Lib.hid (fun u hb => cell_under (by rw [hsz1]; exact hb) (obj_cell hc1 2))
  have h0 := World.ownsRow_made (base := w1.heap.size) (e := 5) (size := 1) w1 #[] 0 (Nat.le_refl _) (by decide) rfl
  have h1 : Below w1.heap.size w1 (w1.alloc (.cells #[] 5)) := (Below.refl _ w1).alloc (Nat.le_refl _) _
  have HO : Hid (((w.alloc (.cells #[.string sn, .int .i64 num, .int .i64 ty, .string sr, .bool rep, .bool loose, .string so] 44)).alloc (.cells #[] 5)).ownsRow (w.heap.size + 1) 5 1 (.slice (some ⟨w.heap.size + 1, 0, none⟩) 0 0) 0 (cellsOf ((l.take 0).flatMap (wireB ty)))) := Lib.hid (by rw [← hw1, ← hsz1]; exact h0)
  have HST : Hid (Below (w.heap.size + 1) w1 ((w.alloc (.cells #[.string sn, .int .i64 num, .int .i64 ty, .string sr, .bool rep, .bool loose, .string so] 44)).alloc (.cells #[] 5))) := Lib.hid (by rw [← hw1, ← hsz1]; exact h1)
  have HT : Hid (∀ u, Below (w.heap.size + 1) w1 u → Below w.heap.size w u) := Lib.hid (fun u hb => HB1.out.trans (hb.mono (by omega)))
  have HS1 : Hid (w1.heap.size = w.heap.size + 1) := Lib.hid hsz1
  clear hc1 hsz1 h0 h1 hw1 hbx HB1
  go_enter Tryz.func16, Tryz.ntmps16
  go_wp2
  cases hnum : numberT ty with
  | false =>
    rw [hnum, if_neg (by decide)] at HPK
    rw [hnum] at HM
    go_loopw [5, 6] (fun v x wr => ∃ (m : Nat) (vo : Value), x = .int .i64 (0 : Int) ∧ v = vo ∧ wr.ownsRow (w.heap.size + 1) 5 1 vo m (cellsOf []) ∧ Below (w.heap.size + 1) w1 wr) (fun _ x _ => 0)
    case atStart => exact ⟨0, _, rfl, rfl, HO.out, HST.out⟩
    case round =>
      obtain ⟨m, vo, rfl, rfl, hown, hbel⟩ := hrel
      have HBE := Lib.hid (HT.out _ hbel)
      have r0 := HTY.out wr hbel
      obtain ⟨hm, Av, capv, hv, hBs⟩ := Bs.own hown
      subst hv
      have gs := run_string_bytes (P := Tryz.prog) hBs Tryz.underlying34 Tryz.underlying5 Tryz.underlying9
      rw [show ([] : List UInt8).length = 0 from rfl] at gs
      by_cases hlt : 0 < n
      · have g1 : decide ((0 : Int) < (n : Int)) = true := decide_eq_true (by omega)
        go_wp2_with (go_at_call 40; refine (HM.out _).mono ?_; rintro e w2 ⟨rfl, rfl⟩)
        go_ret
        exact ⟨by rw [HPK.out]; rfl, HBE.out⟩
      · have g1 : decide ((0 : Int) < (n : Int)) = false := decide_eq_false (by omega)
        go_wp2
        go_ret
        exact ⟨by rw [HPK.out]; rfl, HBE.out⟩
  | true =>
    rw [hnum, if_pos rfl] at HPK
    rw [hnum] at HM
    go_loopw [5, 6] (fun v x wr => ∃ (k m : Nat) (vo : Value), k ≤ n ∧ x = .int .i64 (k : Int) ∧ v = vo ∧ wr.ownsRow (w.heap.size + 1) 5 1 vo m (cellsOf ((l.take k).flatMap (wireB ty))) ∧ Below (w.heap.size + 1) w1 wr) (fun _ x _ => n - (intOf x).toNat)
    case atStart => exact ⟨0, 0, _, Nat.zero_le _, rfl, rfl, HO.out, HST.out⟩
    case round =>
      obtain ⟨k, m, vo, hk, rfl, rfl, hown, hbel⟩ := hrel
      have HBE := Lib.hid hbel
      have r0 := HTY.out wr hbel
      by_cases hlt : k < n
      · have g1 : decide ((k : Int) < (n : Int)) = true := decide_eq_true (by omega)
        obtain ⟨x, hx⟩ : ∃ x, l[k]? = some x := ⟨_, List.getElem?_eq_getElem (by have := HN.out; omega)⟩
        have hx64 := HBN.out x (List.mem_of_getElem? hx)
        obtain ⟨g, off, rfl, c0⟩ := HS.out.at_ k (.int .u64 (x : Int)) (by rw [u64s, List.getElem?_map, hx]; rfl)
        have HC0 := Lib.hid (fun (u : World) (hb : Below w.heap.size w u) => cell_under hb c0)
        have c1 := HC0.out wr (HT.out _ hbel)
        have HTX := Lib.hid (fun u => (HTO.out x u hx64).mono fun _ _ h => And.intro h.1 h.2.symm)
        have hto := to_lt ty x hx64
        have hlen := pack_len (ty := ty) (l := l.take k) (fun y hy => HBN.out y (List.mem_of_mem_take hy))
        have hlk : (l.take k).length ≤ 1000000000000 := by rw [List.length_take]; have := HL.out; omega
        have hwl := wireB_len (ty := ty) hx64
        have HFT := Lib.hid (flatm_take (g := wireB ty) hx)
        obtain ⟨u, hu⟩ : ∃ u, u = toT ty x := ⟨_, rfl⟩
        obtain ⟨pre, hpre⟩ : ∃ pre, pre = (l.take k).flatMap (wireB ty) := ⟨_, rfl⟩
        rw [← hpre] at hown HFT hlen
        obtain ⟨hm, Av, capv, hv, hBs⟩ := Bs.own hown
        subst hv
        have HLE : Hid (pre.length + (wireB ty x).length ≤ 140737488355328) := Lib.hid (by omega)
        have hways := wire_ways ty x
        rw [← hu] at HTX hto hways
        obtain ⟨fb, hfb⟩ : ∃ fb, fb = wireB ty x := ⟨_, rfl⟩
        rw [← hfb] at HFT HLE hways
        have HOWN := Lib.hid hown
        clear hu hx hx64 hown hbel hlen hlk hwl hBs c0 hpre hfb hm
        rcases hways with ⟨hw, he⟩ | ⟨hw, he⟩ | ⟨hw1, hw5, he⟩
        · rw [hw] at HWI
          have HP := Lib.hid (fun v => fput_any u 8 v hto (by decide))
          rw [← he] at HP
          clear he
          go_wp2_with (go_at_call 40; refine (HM.out _).mono ?_; rintro e w2 ⟨rfl, rfl⟩)
          go_quiet (first | (go_at_call 41; refine Calls.quiet_of_same (HTX.out _)))
          go_wp2_with (first
            | (go_at_call 42; refine (HWI.out _).mono ?_; rintro e w2 ⟨rfl, rfl⟩)
            | (go_at_call 43; refine (HP.out _).mono ?_; rintro e w2 ⟨A2, cap2, rfl, hB2, hb2⟩; have hbw : Below (w.heap.size + 1) w1 w2 := HBE.out.trans (((drewN_under wr _).trans (hb2.mono (drewN_under wr _).size)).mono (by have := HBE.out.size; have := HS1.out; omega)); have HB2 := Lib.hid hbw; have HO2 := Lib.hid (own_below (own_below HOWN.out (drewN_under wr _)) hb2); have HBS := Lib.hid hB2; clear hB2 hb2 hbw)
            | (at_builtin; refine wpList_append_bs2 rfl _ _ 34 rfl (w.heap.size + 1) 5 i0 Tryz.underlying34 hi hz0 hz1 hz2 _ _ pre rfl HO2.out _ _ _ fb rfl rfl HBS.out HLE.out (by have := HB2.out.size; have := HS1.out; omega) ?_; intro v3 w3 ho3 hg3 hm3; have HO3 := Lib.hid ho3; have HB3 := Lib.hid (HB2.out.grown hg3 (by have := HB2.out.size; have := HS1.out; omega) (fun j hj => (HO2.out.lt j hj).1)); clear ho3 hg3 hm3))
          go_roundw
          case rel => exact ⟨k + 1, _, _, by omega, by go_num, rfl, by rw [HFT.out]; exact HO3.out, HB3.out⟩
          case measure => simp [intOf]; omega
        · rw [hw] at HWI
          have HP := Lib.hid (fun v => fput_any u 4 v hto (by decide))
          rw [← he] at HP
          clear he
          go_wp2_with (go_at_call 40; refine (HM.out _).mono ?_; rintro e w2 ⟨rfl, rfl⟩)
          go_quiet (first | (go_at_call 41; refine Calls.quiet_of_same (HTX.out _)))
          go_wp2_with (first
            | (go_at_call 42; refine (HWI.out _).mono ?_; rintro e w2 ⟨rfl, rfl⟩)
            | (go_at_call 43; refine (HP.out _).mono ?_; rintro e w2 ⟨A2, cap2, rfl, hB2, hb2⟩; have hbw : Below (w.heap.size + 1) w1 w2 := HBE.out.trans (((drewN_under wr _).trans (hb2.mono (drewN_under wr _).size)).mono (by have := HBE.out.size; have := HS1.out; omega)); have HB2 := Lib.hid hbw; have HO2 := Lib.hid (own_below (own_below HOWN.out (drewN_under wr _)) hb2); have HBS := Lib.hid hB2; clear hB2 hb2 hbw)
            | (at_builtin; refine wpList_append_bs2 rfl _ _ 34 rfl (w.heap.size + 1) 5 i0 Tryz.underlying34 hi hz0 hz1 hz2 _ _ pre rfl HO2.out _ _ _ fb rfl rfl HBS.out HLE.out (by have := HB2.out.size; have := HS1.out; omega) ?_; intro v3 w3 ho3 hg3 hm3; have HO3 := Lib.hid ho3; have HB3 := Lib.hid (HB2.out.grown hg3 (by have := HB2.out.size; have := HS1.out; omega) (fun j hj => (HO2.out.lt j hj).1)); clear ho3 hg3 hm3))
          go_roundw
          case rel => exact ⟨k + 1, _, _, by omega, by go_num, rfl, by rw [HFT.out]; exact HO3.out, HB3.out⟩
          case measure => simp [intOf]; omega
        · have HP := Lib.hid (fun v => rput_any u v hto)
          rw [← he] at HP
          clear he
          go_wp2_with (go_at_call 40; refine (HM.out _).mono ?_; rintro e w2 ⟨rfl, rfl⟩)
          go_quiet (first | (go_at_call 41; refine Calls.quiet_of_same (HTX.out _)))
          go_wp2_with (first
            | (go_at_call 42; refine (HWI.out _).mono ?_; rintro e w2 ⟨rfl, rfl⟩)
            | (go_at_call 44; refine (HP.out _).mono ?_; rintro e w2 ⟨A2, cap2, rfl, hB2, hb2⟩; have hbw : Below (w.heap.size + 1) w1 w2 := HBE.out.trans (((drewN_under wr _).trans (hb2.mono (drewN_under wr _).size)).mono (by have := HBE.out.size; have := HS1.out; omega)); have HB2 := Lib.hid hbw; have HO2 := Lib.hid (own_below (own_below HOWN.out (drewN_under wr _)) hb2); have HBS := Lib.hid hB2; clear hB2 hb2 hbw)
            | (at_builtin; refine wpList_append_bs2 rfl _ _ 34 rfl (w.heap.size + 1) 5 i0 Tryz.underlying34 hi hz0 hz1 hz2 _ _ pre rfl HO2.out _ _ _ fb rfl rfl HBS.out HLE.out (by have := HB2.out.size; have := HS1.out; omega) ?_; intro v3 w3 ho3 hg3 hm3; have HO3 := Lib.hid ho3; have HB3 := Lib.hid (HB2.out.grown hg3 (by have := HB2.out.size; have := HS1.out; omega) (fun j hj => (HO2.out.lt j hj).1)); clear ho3 hg3 hm3))
          go_roundw
          case rel => exact ⟨k + 1, _, _, by omega, by go_num, rfl, by rw [HFT.out]; exact HO3.out, HB3.out⟩
          case measure => simp [intOf]; omega
      · have g1 : decide ((k : Int) < (n : Int)) = false := decide_eq_false (by omega)
        have e : l.take k = l := List.take_of_length_le (by have := HN.out; omega)
        rw [e, ← HPK.out] at hown
        obtain ⟨hm, Av, capv, hv, hBs⟩ := Bs.own hown
        subst hv
        have gs := run_string_bytes (P := Tryz.prog) hBs Tryz.underlying34 Tryz.underlying5 Tryz.underlying9
        have HBF := Lib.hid (HT.out _ HBE.out)
        clear hown e
        go_wp2
        go_ret
        exact ⟨rfl, HBF.out⟩
end Go.Proofs.YtloheacncefkgaaGreatDoor
