/- Several texts in one: SxD, SxR, SxS. What each proves, and its conditions, stands at its own head. -/
import Derived.Test.YtpbhokmpbcmdcaaGreatDoorPkp30
import Derived.Test.YtpbhokmpbcmdcaaGreatDoorPkp7
import Derived.Lib.AppendZerosOnto
import Derived.Test.YtpbhokmpbcmdcaaGreatDoorPkp17
/- slices.Grow of no list, slices.Concat of two lists of texts, strings.Clone. Conditions: those that each theorem names. -/
namespace Go.Proofs.YtpbhokmpbcmdcaaGreatDoor
open Go.RowKit
set_option linter.unusedVariables false
set_option maxRecDepth 100000

theorem sclone_any (s : ByteArray) (w : World) (hs : s.size ≤ 1000000) : Calls Tryz.prog 78 #[.string s] w fun e w' => e = .returned (.string s) ∧ Below w.heap.size w w' := by
  have H : Hid (∀ w, Calls Tryz.prog 122 #[.string s] w fun e w' => e = .returned (.string s) ∧ Below w.heap.size w w') := Lib.hid (fun w => Any.stringslite_Clone lcl_lays s w (by omega))
  clear hs
  go_enter Tryz.func78, Tryz.ntmps78
  go_wp2_with (go_at_call 122; refine (H.out _).mono ?_; rintro e w2 ⟨rfl, hb⟩)
  go_ret
  exact ⟨rfl, hb⟩

set_option maxHeartbeats 2000000 in
theorem sgrow_nil (w : World) (n : Nat) (hn : n ≤ 1000000) :
    Calls Tryz.prog 88 #[.slice none 0 0, .int .i64 n] w fun e w' => ∃ v, e = .returned v ∧ w'.ownsRow w.heap.size 9 1 v 0 (txts []) ∧ Below w.heap.size w w' := by
  obtain ⟨i, hi, hz0, hz1, hz2⟩ := info_str_parts
  by_cases h0 : n = 0
  · subst h0
    go_enter Tryz.func88, Tryz.ntmps88
    go_wp2
    go_ret
    exact ⟨_, rfl, row_none w _ 1 _, Below.refl _ _⟩
  · have h1 : ¬ ((n : Int) < 0) := by omega
    have h4 : (n : Int) > 0 := by omega
    have g1 : decide ((n : Int) < 0) = false := decide_eq_false (by omega)
    have g2 : decide ((n : Int) > 0) = true := decide_eq_true (by omega)
    have g3 : decide (0 < n) = true := decide_eq_true (by omega)
    have gw : IntKind.i64.wrap (n : Int) = (n : Int) := IntWalk.i64_in _ (by omega)
    have hold : (Builtin.firstCells i.size 0 (.slice none 0 0)).run Tryz.prog w.drew = .ok (([] : List Value)).toArray w.drew := run_firstCells_none w.drew i.size 0 0 0
    have hrz : ∀ ty, (Builtin.append_ #[60, 3] ty #[.slice none 0 0, .int .i64 (n : Int)]).run Tryz.prog w =
        .ok (.slice (some ⟨w.heap.size, 0, none⟩) n (grownCap w n 0 9)) (w.drew.alloc (.cells (([] : List Value).toArray ++ Builtin.zeroCells (Value.string ByteArray.empty).cells n ++ Builtin.zeroCells (Value.string ByteArray.empty).cells (grownCap w n 0 9 - n)) 9)) := fun ty => by
      have h := Lib.run_append_grow_zeros w 60 3 ty 9 i (.string ByteArray.empty) .i64 .i64 Tryz.underlying60 Tryz.underlying3 hi hz0 none 0 0 [] hold n (by omega) (by omega) (by omega) (by omega)
        (by rw [hz2]; omega) (by rw [Nat.zero_add]; exact growslice_fits (by omega) (by rw [hz2]; omega))
      rw [Nat.zero_add] at h
      exact h
    have hGn : n ≤ grownCap w n 0 9 := grownCap_ge w _ _ _
    have hGm := grownCap_le_maxLen w n 0 9 (by unfold maxLen; omega)
    obtain ⟨G, hG⟩ : ∃ G, G = grownCap w n 0 9 := ⟨_, rfl⟩
    rw [← hG] at hrz hGn hGm
    have hG63 : G ≤ 9223372036854775807 := by unfold maxLen at hGm; omega
    have HGM := Lib.hid hGm
    clear hold hG hGm hi
    go_enter Tryz.func88, Tryz.ntmps88
    go_wp2_with (at_builtin; refine Lib.wpList_append_run _ rfl _ _ _ _ rfl _ _ rfl rfl _ _ (hrz _) ?_)
    go_ret
    refine ⟨_, rfl, ⟨rfl, .inr ⟨w.heap.size, G, _, rfl, Nat.le_refl _, heap_alloc_new w.drew _, Nat.zero_le _, HGM.out, ?_, rfl⟩⟩, ?_⟩
    · simp [Builtin.zeroCells]
      omega
    · exact ((Below.refl _ w).trans (drewN_under w 1)).alloc (Nat.le_refl _) _

/-- How many texts the first k lists have. -/
def upTo {α : Type} (a b : List α) : Nat → List α
  | 0 => []
  | 1 => a
  | _ => a ++ b
theorem upTo_len {α : Type} {a b : List α} (k : Nat) (ha : a.length ≤ 1000) (hb : b.length ≤ 1000) : (upTo a b k).length ≤ 2000 := by
  match k with
  | 0 => exact Nat.zero_le _
  | 1 => show a.length ≤ 2000; omega
  | k + 2 => show (a ++ b).length ≤ 2000; rw [List.length_append]; omega
set_option maxHeartbeats 4000000 in
theorem sconcat_any (w : World) (g : Nat) {A1 A2 : Option Addr} {n1 c1 n2 c2 : Nat} {l1 l2 : List (List UInt8)} (h0 : w.cell? ⟨g, 0, none⟩ = some (.slice A1 n1 c1)) (h1 : w.cell? ⟨g, 1, none⟩ = some (.slice A2 n2 c2))
    (hs1 : Sl w A1 c1 (txts l1)) (hs2 : Sl w A2 c2 (txts l2)) (hn1 : n1 = l1.length) (hn2 : n2 = l2.length) (hm1 : n1 ≤ 1000) (hm2 : n2 ≤ 1000) :
    Calls Tryz.prog 47 #[.slice (some ⟨g, 0, none⟩) 2 2] w fun e w' => ∃ v, e = .returned v ∧ w'.ownsRow w.heap.size 9 1 v (l1 ++ l2).length (txts (l1 ++ l2)) ∧ Below w.heap.size w w' := by
  have HG := Lib.hid (sgrow_nil w (n1 + n2) (by omega))
  have H1 := Lib.hid hs1
  have H2 := Lib.hid hs2
  have HN1 := Lib.hid hn1
  have HN2 := Lib.hid hn2
  have HC0 := Lib.hid h0
  have HC1 := Lib.hid h1
  have HL : Hid (∀ k, (upTo l1 l2 k).length ≤ 2000) := Lib.hid (fun k => upTo_len k (by omega) (by omega))
  clear hs1 hs2 hn1 hn2
  have gw1 : IntKind.i64.wrap ((n1 : Int) + (n2 : Int)) = ((n1 + n2 : Nat) : Int) := by rw [IntWalk.i64_in _ (by omega)]; omega
  have gw0 : IntKind.i64.wrap (n1 : Int) = (n1 : Int) := IntWalk.i64_in _ (by omega)
  have gn1 : decide ((n1 : Int) < 0) = false := decide_eq_false (by omega)
  have gn2 : decide (((n1 + n2 : Nat) : Int) < 0) = false := decide_eq_false (by omega)
  clear h0 h1
  go_enter Tryz.func47, Tryz.ntmps47
  go_wp2
  go_loopw [3, 5, 11] (fun u v x wr => ∃ k : Nat, x = .int .i64 (k : Int) ∧ k ≤ 2 ∧ u = .int .i64 ((if k = 0 then 0 else if k = 1 then n1 else n1 + n2 : Nat) : Int) ∧ w = wr) (fun u v x _ => 2 - (intOf x).toNat)
  case atStart => exact ⟨0, rfl, by omega, rfl, by trivial⟩
  case round =>
    obtain ⟨k, rfl, hk, rfl, rfl⟩ := hrel
    have c0 := HC0.out
    have c1' := HC1.out
    match k, hk with
    | 0, _ =>
      go_wp2
      go_roundw
      case rel => exact ⟨1, rfl, by omega, rfl, by trivial⟩
      case measure => simp [intOf]
    | 1, _ =>
      go_wp2
      go_roundw
      case rel => exact ⟨2, rfl, by omega, rfl, by trivial⟩
      case measure => simp [intOf]
    | 2, _ =>
      go_wp2_with (go_at_call 88; refine HG.out.mono ?_; rintro e w2 ⟨v0, rfl, ho, hb⟩; have HO := Lib.hid ho; have HB := Lib.hid hb; clear ho hb)
      go_loopw [6, 8, 27] (fun u v x wr2 => ∃ k : Nat, x = .int .i64 (k : Int) ∧ k ≤ 2 ∧ wr2.ownsRow w.heap.size 9 1 u (upTo l1 l2 k).length (txts (upTo l1 l2 k)) ∧ Below w.heap.size w wr2) (fun u v x _ => 2 - (intOf x).toNat)
      case atStart => exact ⟨0, rfl, by omega, HO.out, HB.out⟩
      case round =>
        obtain ⟨k, rfl, hk, hown, hbel⟩ := hrel
        have HOWN := Lib.hid hown
        have HBEL := Lib.hid hbel
        have c0 := cell_under hbel HC0.out
        have c1' := cell_under hbel HC1.out
        clear hown hbel
        match k, hk with
        | 0, _ =>
          go_wp2_with (at_builtin; refine wpList_append_sl rfl _ _ rfl w.heap.size _ _ _ rfl HOWN.out _ n1 c1 l1 rfl HN1.out (H1.out.below HBEL.out (Nat.le_refl _)) (by have := HN1.out; show 0 + _ ≤ 1000000; omega) HBEL.out.size ?_; intro va2 w3 ho hg; have HOA := Lib.hid ho; have HBA := Lib.hid (HBEL.out.grown hg HBEL.out.size (fun k hk => (HOWN.out.lt k hk).1)); clear ho hg)
          go_roundw
          case rel => exact ⟨1, rfl, by omega, (by have := HOA.out; simpa [upTo] using this), HBA.out⟩
          case measure => simp [intOf]
        | 1, _ =>
          go_wp2_with (at_builtin; refine wpList_append_sl rfl _ _ rfl w.heap.size _ _ _ rfl HOWN.out _ n2 c2 l2 rfl HN2.out (H2.out.below HBEL.out (Nat.le_refl _)) (by have := HN1.out; have := HN2.out; show l1.length + _ ≤ 1000000; omega) HBEL.out.size ?_; intro va2 w3 ho hg; have HOA := Lib.hid ho; have HBA := Lib.hid (HBEL.out.grown hg HBEL.out.size (fun k hk => (HOWN.out.lt k hk).1)); clear ho hg)
          go_roundw
          case rel => exact ⟨2, rfl, by omega, (by have := HOA.out; rw [← List.length_append] at this; exact this), HBA.out⟩
          case measure => simp [intOf]
        | 2, _ =>
          go_wp2
          go_ret
          exact ⟨_, rfl, HOWN.out, HBEL.out⟩
end Go.Proofs.YtpbhokmpbcmdcaaGreatDoor

/- The program's Same: slices.Equal, slices.EqualFunc, and which schemas are the same. Conditions: those that each theorem names. -/
namespace Go.Proofs.YtpbhokmpbcmdcaaGreatDoor
open Go.RowKit
set_option linter.unusedVariables false
set_option maxRecDepth 100000

set_option maxHeartbeats 8000000 in
theorem equ_vl {S T : Nat → Prop} (w : World) {A B : Option Addr} {cap cb n m : Nat} {l k : List Vl} (h : Lst 2 S vlR w A cap l) (h' : Lst 2 T vlR w B cb k) (hn : n = l.length) (hm : m = k.length) :
    Calls Tryz.prog 83 #[.slice A n cap, .slice B m cb] w fun e w' => e = .returned (.bool (decide (l = k))) ∧ Below w.heap.size w w' := by
  have q1 := h.l_le
  have q2 := h.l_max
  have q3 := h'.l_le
  have q4 := h'.l_max
  rw [← hn] at q1
  rw [← hm] at q3
  unfold maxLen at q2 q4
  have HA := Lib.hid h
  have HB := Lib.hid h'
  have HN := Lib.hid hn
  have HM := Lib.hid hm
  by_cases hl : n = m
  · subst hl
    clear h h' hn hm
    go_enter Tryz.func83, Tryz.ntmps83
    go_wp2
    go_loopg [5, 13] n (fun gz u x0 wr => ∃ i : Nat, x0 = .int .i64 (i : Int) ∧ i + gz = n ∧ (∀ (j : Nat) x y, j < i → l[j]? = some x → k[j]? = some y → x = y) ∧ Below w.heap.size w wr)
    case atStart => exact ⟨0, rfl, by omega, fun j x y hj => absurd hj (Nat.not_lt_zero _), Below.refl _ _⟩
    case round =>
     obtain ⟨i, rfl, hi, hall, hbel⟩ := hrel
     have HALL := Lib.hid hall
     have HBL := Lib.hid hbel
     clear hall hbel
     obtain ⟨g0, hg0⟩ : ∃ g0, g0 = gk := ⟨_, rfl⟩
     subst hg0
     by_cases hlti : i < n
     ·
      have ti : decide ((i : Int) < (n : Int)) = true := decide_eq_true (by omega)
      obtain ⟨x, hx⟩ : ∃ x, l[i]? = some x := ⟨_, List.getElem?_eq_getElem (by have := HN.out; omega)⟩
      obtain ⟨y, hy⟩ : ∃ y, k[i]? = some y := ⟨_, List.getElem?_eq_getElem (by have := HM.out; omega)⟩
      have HXI := Lib.hid hx
      have HYI := Lib.hid hy
      obtain ⟨gf, of, rfl, _, hcf⟩ := vl_at HA.out hx
      obtain ⟨gg, og, rfl, _, hcg⟩ := vl_at HB.out hy
      obtain ⟨d0, d1⟩ := hcf _ HBL.out
      obtain ⟨e0, e1⟩ := hcg _ HBL.out
      have hq := run_neq_vl x y
      obtain ⟨r, hr⟩ : ∃ r, r = decide (x = y) := ⟨_, rfl⟩
      have HR := Lib.hid hr
      rw [← hr] at hq
      clear hx hy hcf hcg hr
      obtain ⟨name1, num1⟩ := x
      dsimp only at hq d0 d1
      obtain ⟨sn1, hsn1⟩ : ∃ z, z = strOf name1 := ⟨_, rfl⟩
      rw [← hsn1] at hq d0
      obtain ⟨name2, num2⟩ := y
      dsimp only at hq e0 e1
      obtain ⟨sn2, hsn2⟩ : ∃ z, z = strOf name2 := ⟨_, rfl⟩
      rw [← hsn2] at hq e0
      clear hsn1 hsn2
      cases r with
      | true =>
       go_wp2
       go_quiet (fail)
       go_wp2
       go_roundg (g0 - 1)
       case measure => omega
       case rel => exact ⟨i + 1, by go_num, by omega, (fun j x y hj hx hy => by
                            by_cases hji : j < i
                            · exact HALL.out j x y hji hx hy
                            · have : j = i := by omega
                              subst this
                              have e1 := HXI.out.symm.trans hx
                              have e2 := HYI.out.symm.trans hy
                              injection e1 with e1
                              injection e2 with e2
                              rw [← e1, ← e2]
                              exact of_decide_eq_true HR.out.symm), HBL.out.trans ((drewN_under wr _).mono HBL.out.size)⟩
      | false =>
       have HO : Hid (decide (l = k) = false) := Lib.hid (decide_eq_false (lists_ne HXI.out HYI.out (of_decide_eq_false HR.out.symm)))
       go_wp2
       go_quiet (fail)
       go_wp2
       go_ret
       exact ⟨ret_bool' HO.out.symm, HBL.out.trans ((drewN_under wr _).mono HBL.out.size)⟩
     · have ti : decide ((i : Int) < (n : Int)) = false := decide_eq_false (by omega)
       have HO : Hid (decide (l = k) = true) := Lib.hid (decide_eq_true (lists_eq (by have := HN.out; have := HM.out; omega) (fun j x y hx hy => HALL.out j x y (by have := (List.getElem?_eq_some_iff.mp hx).1; have := HN.out; omega) hx hy)))
       go_wp2
       go_ret
       exact ⟨ret_bool' HO.out.symm, HBL.out⟩
  · have t3 : ((n : Int) == (m : Int)) = false := beq_false_of_ne (by omega)
    have t4 : ((n : Int) != (m : Int)) = true := by simp; omega
    have t5 : ¬ n = m := hl
    have HO : Hid (decide (l = k) = false) := Lib.hid (decide_eq_false (fun e => hl (by rw [hn, hm, e])))
    clear h h' hn hm
    go_enter Tryz.func83, Tryz.ntmps83
    go_wp2
    go_ret
    exact ⟨ret_bool' HO.out.symm, Below.refl _ _⟩

set_option maxHeartbeats 8000000 in
theorem equ_fd {S T : Nat → Prop} (w : World) {A B : Option Addr} {cap cb n m : Nat} {l k : List Fd} (h : Lst 7 S fdR w A cap l) (h' : Lst 7 T fdR w B cb k) (hn : n = l.length) (hm : m = k.length) :
    Calls Tryz.prog 84 #[.slice A n cap, .slice B m cb] w fun e w' => e = .returned (.bool (decide (l = k))) ∧ Below w.heap.size w w' := by
  have q1 := h.l_le
  have q2 := h.l_max
  have q3 := h'.l_le
  have q4 := h'.l_max
  rw [← hn] at q1
  rw [← hm] at q3
  unfold maxLen at q2 q4
  have HA := Lib.hid h
  have HB := Lib.hid h'
  have HN := Lib.hid hn
  have HM := Lib.hid hm
  by_cases hl : n = m
  · subst hl
    clear h h' hn hm
    go_enter Tryz.func84, Tryz.ntmps84
    go_wp2
    go_loopg [5, 13] n (fun gz u x0 wr => ∃ i : Nat, x0 = .int .i64 (i : Int) ∧ i + gz = n ∧ (∀ (j : Nat) x y, j < i → l[j]? = some x → k[j]? = some y → x = y) ∧ Below w.heap.size w wr)
    case atStart => exact ⟨0, rfl, by omega, fun j x y hj => absurd hj (Nat.not_lt_zero _), Below.refl _ _⟩
    case round =>
     obtain ⟨i, rfl, hi, hall, hbel⟩ := hrel
     have HALL := Lib.hid hall
     have HBL := Lib.hid hbel
     clear hall hbel
     obtain ⟨g0, hg0⟩ : ∃ g0, g0 = gk := ⟨_, rfl⟩
     subst hg0
     by_cases hlti : i < n
     ·
      have ti : decide ((i : Int) < (n : Int)) = true := decide_eq_true (by omega)
      obtain ⟨x, hx⟩ : ∃ x, l[i]? = some x := ⟨_, List.getElem?_eq_getElem (by have := HN.out; omega)⟩
      obtain ⟨y, hy⟩ : ∃ y, k[i]? = some y := ⟨_, List.getElem?_eq_getElem (by have := HM.out; omega)⟩
      have HXI := Lib.hid hx
      have HYI := Lib.hid hy
      obtain ⟨gf, of, rfl, _, hcf⟩ := fd_at HA.out hx
      obtain ⟨gg, og, rfl, _, hcg⟩ := fd_at HB.out hy
      obtain ⟨d0, d1, d2, d3, d4, d5, d6⟩ := hcf _ HBL.out
      obtain ⟨e0, e1, e2, e3, e4, e5, e6⟩ := hcg _ HBL.out
      have hq := run_neq_fd x y
      obtain ⟨r, hr⟩ : ∃ r, r = decide (x = y) := ⟨_, rfl⟩
      have HR := Lib.hid hr
      rw [← hr] at hq
      clear hx hy hcf hcg hr
      obtain ⟨name1, num1, ty1, ref1, rep1, loose1, one1⟩ := x
      dsimp only at hq d0 d1 d2 d3 d4 d5 d6
      obtain ⟨sn1, hsn1⟩ : ∃ z, z = strOf name1 := ⟨_, rfl⟩
      rw [← hsn1] at hq d0
      obtain ⟨sr1, hsr1⟩ : ∃ z, z = strOf ref1 := ⟨_, rfl⟩
      rw [← hsr1] at hq d3
      obtain ⟨so1, hso1⟩ : ∃ z, z = strOf one1 := ⟨_, rfl⟩
      rw [← hso1] at hq d6
      clear hsn1 hsr1 hso1
      obtain ⟨name2, num2, ty2, ref2, rep2, loose2, one2⟩ := y
      dsimp only at hq e0 e1 e2 e3 e4 e5 e6
      obtain ⟨sn2, hsn2⟩ : ∃ z, z = strOf name2 := ⟨_, rfl⟩
      rw [← hsn2] at hq e0
      obtain ⟨sr2, hsr2⟩ : ∃ z, z = strOf ref2 := ⟨_, rfl⟩
      rw [← hsr2] at hq e3
      obtain ⟨so2, hso2⟩ : ∃ z, z = strOf one2 := ⟨_, rfl⟩
      rw [← hso2] at hq e6
      clear hsn2 hsr2 hso2
      cases r with
      | true =>
       go_wp2
       go_quiet (fail)
       go_wp2
       go_roundg (g0 - 1)
       case measure => omega
       case rel => exact ⟨i + 1, by go_num, by omega, (fun j x y hj hx hy => by
                            by_cases hji : j < i
                            · exact HALL.out j x y hji hx hy
                            · have : j = i := by omega
                              subst this
                              have e1 := HXI.out.symm.trans hx
                              have e2 := HYI.out.symm.trans hy
                              injection e1 with e1
                              injection e2 with e2
                              rw [← e1, ← e2]
                              exact of_decide_eq_true HR.out.symm), HBL.out.trans ((drewN_under wr _).mono HBL.out.size)⟩
      | false =>
       have HO : Hid (decide (l = k) = false) := Lib.hid (decide_eq_false (lists_ne HXI.out HYI.out (of_decide_eq_false HR.out.symm)))
       go_wp2
       go_quiet (fail)
       go_wp2
       go_ret
       exact ⟨ret_bool' HO.out.symm, HBL.out.trans ((drewN_under wr _).mono HBL.out.size)⟩
     · have ti : decide ((i : Int) < (n : Int)) = false := decide_eq_false (by omega)
       have HO : Hid (decide (l = k) = true) := Lib.hid (decide_eq_true (lists_eq (by have := HN.out; have := HM.out; omega) (fun j x y hx hy => HALL.out j x y (by have := (List.getElem?_eq_some_iff.mp hx).1; have := HN.out; omega) hx hy)))
       go_wp2
       go_ret
       exact ⟨ret_bool' HO.out.symm, HBL.out⟩
  · have t3 : ((n : Int) == (m : Int)) = false := beq_false_of_ne (by omega)
    have t4 : ((n : Int) != (m : Int)) = true := by simp; omega
    have t5 : ¬ n = m := hl
    have HO : Hid (decide (l = k) = false) := Lib.hid (decide_eq_false (fun e => hl (by rw [hn, hm, e])))
    clear h h' hn hm
    go_enter Tryz.func84, Tryz.ntmps84
    go_wp2
    go_ret
    exact ⟨ret_bool' HO.out.symm, Below.refl _ _⟩

set_option maxHeartbeats 8000000 in
theorem equ_in {S T : Nat → Prop} (w : World) {A B : Option Addr} {cap cb n m : Nat} {l k : List Int} (h : Lst 1 S inR w A cap l) (h' : Lst 1 T inR w B cb k) (hn : n = l.length) (hm : m = k.length) :
    Calls Tryz.prog 85 #[.slice A n cap, .slice B m cb] w fun e w' => e = .returned (.bool (decide (l = k))) ∧ Below w.heap.size w w' := by
  have q1 := h.l_le
  have q2 := h.l_max
  have q3 := h'.l_le
  have q4 := h'.l_max
  rw [← hn] at q1
  rw [← hm] at q3
  unfold maxLen at q2 q4
  have HA := Lib.hid h
  have HB := Lib.hid h'
  have HN := Lib.hid hn
  have HM := Lib.hid hm
  by_cases hl : n = m
  · subst hl
    clear h h' hn hm
    go_enter Tryz.func85, Tryz.ntmps85
    go_wp2
    go_loopg [5, 13] n (fun gz u x0 wr => ∃ i : Nat, x0 = .int .i64 (i : Int) ∧ i + gz = n ∧ (∀ (j : Nat) x y, j < i → l[j]? = some x → k[j]? = some y → x = y) ∧ Below w.heap.size w wr)
    case atStart => exact ⟨0, rfl, by omega, fun j x y hj => absurd hj (Nat.not_lt_zero _), Below.refl _ _⟩
    case round =>
     obtain ⟨i, rfl, hi, hall, hbel⟩ := hrel
     have HALL := Lib.hid hall
     have HBL := Lib.hid hbel
     clear hall hbel
     obtain ⟨g0, hg0⟩ : ∃ g0, g0 = gk := ⟨_, rfl⟩
     subst hg0
     by_cases hlti : i < n
     ·
      have ti : decide ((i : Int) < (n : Int)) = true := decide_eq_true (by omega)
      obtain ⟨x, hx⟩ : ∃ x, l[i]? = some x := ⟨_, List.getElem?_eq_getElem (by have := HN.out; omega)⟩
      obtain ⟨y, hy⟩ : ∃ y, k[i]? = some y := ⟨_, List.getElem?_eq_getElem (by have := HM.out; omega)⟩
      have HXI := Lib.hid hx
      have HYI := Lib.hid hy
      obtain ⟨gf, of, rfl, _, hcf⟩ := in_at HA.out hx
      obtain ⟨gg, og, rfl, _, hcg⟩ := in_at HB.out hy
      have d0 := hcf _ HBL.out
      have e0 := hcg _ HBL.out
      have hq : ∀ w : World, (binOp .neq 3 (.int .i64 x) (.int .i64 y)).run Tryz.prog w = .ok (.bool (!decide (x = y))) w := fun w => by go_simp; by_cases h : x = y <;> simp [h]
      obtain ⟨r, hr⟩ : ∃ r, r = decide (x = y) := ⟨_, rfl⟩
      have HR := Lib.hid hr
      rw [← hr] at hq
      have hq2 : (x != y) = !r := by rw [hr]; by_cases h : x = y <;> simp [h]
      have hq3 : (x == y) = r := by rw [hr]; by_cases h : x = y <;> simp [h]
      clear hx hy hcf hcg hr
      cases r with
      | true =>
       go_wp2
       go_quiet (fail)
       go_wp2
       go_roundg (g0 - 1)
       case measure => omega
       case rel => exact ⟨i + 1, by go_num, by omega, (fun j x y hj hx hy => by
                            by_cases hji : j < i
                            · exact HALL.out j x y hji hx hy
                            · have : j = i := by omega
                              subst this
                              have e1 := HXI.out.symm.trans hx
                              have e2 := HYI.out.symm.trans hy
                              injection e1 with e1
                              injection e2 with e2
                              rw [← e1, ← e2]
                              exact of_decide_eq_true HR.out.symm), HBL.out.trans ((drewN_under wr _).mono HBL.out.size)⟩
      | false =>
       have HO : Hid (decide (l = k) = false) := Lib.hid (decide_eq_false (lists_ne HXI.out HYI.out (of_decide_eq_false HR.out.symm)))
       go_wp2
       go_quiet (fail)
       go_wp2
       go_ret
       exact ⟨ret_bool' HO.out.symm, HBL.out.trans ((drewN_under wr _).mono HBL.out.size)⟩
     · have ti : decide ((i : Int) < (n : Int)) = false := decide_eq_false (by omega)
       have HO : Hid (decide (l = k) = true) := Lib.hid (decide_eq_true (lists_eq (by have := HN.out; have := HM.out; omega) (fun j x y hx hy => HALL.out j x y (by have := (List.getElem?_eq_some_iff.mp hx).1; have := HN.out; omega) hx hy)))
       go_wp2
       go_ret
       exact ⟨ret_bool' HO.out.symm, HBL.out⟩
  · have t3 : ((n : Int) == (m : Int)) = false := beq_false_of_ne (by omega)
    have t4 : ((n : Int) != (m : Int)) = true := by simp; omega
    have t5 : ¬ n = m := hl
    have HO : Hid (decide (l = k) = false) := Lib.hid (decide_eq_false (fun e => hl (by rw [hn, hm, e])))
    clear h h' hn hm
    go_enter Tryz.func85, Tryz.ntmps85
    go_wp2
    go_ret
    exact ⟨ret_bool' HO.out.symm, Below.refl _ _⟩

set_option maxHeartbeats 8000000 in
theorem eqf_en {S T : Nat → Nat → Prop} (w : World) {A B : Option Addr} {cap cb n m : Nat} {l k : List En} (h : Lst 2 (S 3) (enR S) w A cap l) (h' : Lst 2 (T 3) (enR T) w B cb k) (hn : n = l.length) (hm : m = k.length) (kf : Nat) (henter : Enters Tryz.prog kf)
    (hp : ∀ (i : Nat) x y, l[i]? = some x → k[i]? = some y → ∀ A1 c1 B1 d1 u, Lst 2 (S 0) vlR u A1 c1 x.values → Lst 2 (T 0) vlR u B1 d1 y.values → Below w.heap.size w u → Calls Tryz.prog kf #[.agg #[.string (strOf x.name), .slice A1 x.values.length c1], .agg #[.string (strOf y.name), .slice B1 y.values.length d1]] u fun e w' => e = .returned (.bool (decide (x = y))) ∧ Below u.heap.size u w') :
    Calls Tryz.prog 36 #[.slice A n cap, .slice B m cb, .func (.func kf) #[] #[]] w fun e w' => e = .returned (.bool (decide (l = k))) ∧ Below w.heap.size w w' := by
  have q1 := h.l_le
  have q2 := h.l_max
  have q3 := h'.l_le
  have q4 := h'.l_max
  rw [← hn] at q1
  rw [← hm] at q3
  unfold maxLen at q2 q4
  have hent : ∀ (args : Array Value) (w : World), (callFunc kf args).run Tryz.prog w = .ok (.enter kf args) w := henter
  have HA := Lib.hid h
  have HB := Lib.hid h'
  have HN := Lib.hid hn
  have HM := Lib.hid hm
  have HP := Lib.hid hp
  by_cases hl : n = m
  · subst hl
    clear h h' hn hm hp henter
    go_enter Tryz.func36, Tryz.ntmps36
    go_wp2
    go_loopg [7, 8, 9, 17] n (fun gz u v t x0 wr => ∃ i : Nat, x0 = .int .i64 (i : Int) ∧ i + gz = n ∧ (∀ (j : Nat) x y, j < i → l[j]? = some x → k[j]? = some y → x = y) ∧ Below w.heap.size w wr)
    case atStart => exact ⟨0, rfl, by omega, fun j x y hj => absurd hj (Nat.not_lt_zero _), Below.refl _ _⟩
    case round =>
     obtain ⟨i, rfl, hi, hall, hbel⟩ := hrel
     have HALL := Lib.hid hall
     have HBL := Lib.hid hbel
     clear hall hbel
     obtain ⟨g0, hg0⟩ : ∃ g0, g0 = gk := ⟨_, rfl⟩
     subst hg0
     by_cases hlti : i < n
     ·
      have ti : decide ((i : Int) < (n : Int)) = true := decide_eq_true (by omega)
      obtain ⟨x, hx⟩ : ∃ x, l[i]? = some x := ⟨_, List.getElem?_eq_getElem (by have := HN.out; omega)⟩
      obtain ⟨y, hy⟩ : ∃ y, k[i]? = some y := ⟨_, List.getElem?_eq_getElem (by have := HM.out; omega)⟩
      have HXI := Lib.hid hx
      have HYI := Lib.hid hy
      obtain ⟨gf, of, A1, c1, rfl, _, hcf, hl1⟩ := en_at HA.out hx
      obtain ⟨gg, og, B1, d1, rfl, _, hcg, hl2⟩ := en_at HB.out hy
      have HCK := Lib.hid (fun u (hb : Below w.heap.size w u) => HP.out i x y hx hy A1 c1 B1 d1 u (lst_keep hl1 vlR_keep (fun _ h => h) (bel_keep hb)) (lst_keep hl2 vlR_keep (fun _ h => h) (bel_keep hb)) hb)
      obtain ⟨n1, hn1⟩ : ∃ z, z = x.values.length := ⟨_, rfl⟩
      obtain ⟨n2, hn2⟩ : ∃ z, z = y.values.length := ⟨_, rfl⟩
      obtain ⟨s1, hs1⟩ : ∃ z, z = strOf x.name := ⟨_, rfl⟩
      obtain ⟨s2, hs2⟩ : ∃ z, z = strOf y.name := ⟨_, rfl⟩
      rw [← hn1] at hcf HCK
      rw [← hn2] at hcg HCK
      rw [← hs1] at hcf HCK
      rw [← hs2] at hcg HCK
      obtain ⟨p0, p1⟩ := hcf _ HBL.out
      obtain ⟨r0, r1⟩ := hcg _ HBL.out
      have ra := fun o => (hcg _ (HBL.out.alloc HBL.out.size o)).1
      have rb := fun o => (hcg _ (HBL.out.alloc HBL.out.size o)).2
      obtain ⟨r, hr⟩ : ∃ r, r = decide (x = y) := ⟨_, rfl⟩
      have HR := Lib.hid hr
      rw [← hr] at HCK
      clear hx hy hr hcf hcg hl1 hl2 hn1 hn2 hs1 hs2
      have HB2 : Hid (∀ o p, Below w.heap.size w ((wr.alloc o).alloc p)) := Lib.hid (fun o p => (HBL.out.alloc HBL.out.size o).alloc (HBL.out.alloc HBL.out.size o).size p)
      cases r with
      | true =>
       go_wp2_with (go_at_fn kf; refine (HCK.out _ (HB2.out _ _)).mono ?_; rintro e w2 ⟨rfl, hb⟩; have HB3 := Lib.hid ((HB2.out _ _).trans (hb.mono (HB2.out _ _).size)); clear hb)
       go_roundg (g0 - 1)
       case measure => omega
       case rel => exact ⟨i + 1, by go_num, by omega, (fun j x y hj hx hy => by
                            by_cases hji : j < i
                            · exact HALL.out j x y hji hx hy
                            · have : j = i := by omega
                              subst this
                              have e1 := HXI.out.symm.trans hx
                              have e2 := HYI.out.symm.trans hy
                              injection e1 with e1
                              injection e2 with e2
                              rw [← e1, ← e2]
                              exact of_decide_eq_true HR.out.symm), HB3.out⟩
      | false =>
       have HO : Hid (decide (l = k) = false) := Lib.hid (decide_eq_false (lists_ne HXI.out HYI.out (of_decide_eq_false HR.out.symm)))
       go_wp2_with (go_at_fn kf; refine (HCK.out _ (HB2.out _ _)).mono ?_; rintro e w2 ⟨rfl, hb⟩; have HB3 := Lib.hid ((HB2.out _ _).trans (hb.mono (HB2.out _ _).size)); clear hb)
       go_ret
       exact ⟨ret_bool' HO.out.symm, HB3.out⟩
     · have ti : decide ((i : Int) < (n : Int)) = false := decide_eq_false (by omega)
       have HO : Hid (decide (l = k) = true) := Lib.hid (decide_eq_true (lists_eq (by have := HN.out; have := HM.out; omega) (fun j x y hx hy => HALL.out j x y (by have := (List.getElem?_eq_some_iff.mp hx).1; have := HN.out; omega) hx hy)))
       go_wp2
       go_ret
       exact ⟨ret_bool' HO.out.symm, HBL.out⟩
  · have t3 : ((n : Int) == (m : Int)) = false := beq_false_of_ne (by omega)
    have t4 : ((n : Int) != (m : Int)) = true := by simp; omega
    have t5 : ¬ n = m := hl
    have HO : Hid (decide (l = k) = false) := Lib.hid (decide_eq_false (fun e => hl (by rw [hn, hm, e])))
    clear h h' hn hm hp henter
    go_enter Tryz.func36, Tryz.ntmps36
    go_wp2
    go_ret
    exact ⟨ret_bool' HO.out.symm, Below.refl _ _⟩

set_option maxHeartbeats 8000000 in
theorem eqf_ms {S T : Nat → Nat → Prop} (w : World) {A B : Option Addr} {cap cb n m : Nat} {l k : List Ms} (h : Lst 3 (S 4) (msR S) w A cap l) (h' : Lst 3 (T 4) (msR T) w B cb k) (hn : n = l.length) (hm : m = k.length) (kf : Nat) (henter : Enters Tryz.prog kf)
    (hp : ∀ (i : Nat) x y, l[i]? = some x → k[i]? = some y → ∀ A1 c1 A3 c3 B1 d1 B3 d3 u, Lst 7 (S 1) fdR u A1 c1 x.fields → Lst 1 (S 2) inR u A3 c3 x.barred → Lst 7 (T 1) fdR u B1 d1 y.fields → Lst 1 (T 2) inR u B3 d3 y.barred → Below w.heap.size w u → Calls Tryz.prog kf #[.agg #[.string (strOf x.name), .slice A1 x.fields.length c1, .slice A3 x.barred.length c3], .agg #[.string (strOf y.name), .slice B1 y.fields.length d1, .slice B3 y.barred.length d3]] u fun e w' => e = .returned (.bool (decide (x = y))) ∧ Below u.heap.size u w') :
    Calls Tryz.prog 38 #[.slice A n cap, .slice B m cb, .func (.func kf) #[] #[]] w fun e w' => e = .returned (.bool (decide (l = k))) ∧ Below w.heap.size w w' := by
  have q1 := h.l_le
  have q2 := h.l_max
  have q3 := h'.l_le
  have q4 := h'.l_max
  rw [← hn] at q1
  rw [← hm] at q3
  unfold maxLen at q2 q4
  have hent : ∀ (args : Array Value) (w : World), (callFunc kf args).run Tryz.prog w = .ok (.enter kf args) w := henter
  have HA := Lib.hid h
  have HB := Lib.hid h'
  have HN := Lib.hid hn
  have HM := Lib.hid hm
  have HP := Lib.hid hp
  by_cases hl : n = m
  · subst hl
    clear h h' hn hm hp henter
    go_enter Tryz.func38, Tryz.ntmps38
    go_wp2
    go_loopg [7, 8, 9, 17] n (fun gz u v t x0 wr => ∃ i : Nat, x0 = .int .i64 (i : Int) ∧ i + gz = n ∧ (∀ (j : Nat) x y, j < i → l[j]? = some x → k[j]? = some y → x = y) ∧ Below w.heap.size w wr)
    case atStart => exact ⟨0, rfl, by omega, fun j x y hj => absurd hj (Nat.not_lt_zero _), Below.refl _ _⟩
    case round =>
     obtain ⟨i, rfl, hi, hall, hbel⟩ := hrel
     have HALL := Lib.hid hall
     have HBL := Lib.hid hbel
     clear hall hbel
     obtain ⟨g0, hg0⟩ : ∃ g0, g0 = gk := ⟨_, rfl⟩
     subst hg0
     by_cases hlti : i < n
     ·
      have ti : decide ((i : Int) < (n : Int)) = true := decide_eq_true (by omega)
      obtain ⟨x, hx⟩ : ∃ x, l[i]? = some x := ⟨_, List.getElem?_eq_getElem (by have := HN.out; omega)⟩
      obtain ⟨y, hy⟩ : ∃ y, k[i]? = some y := ⟨_, List.getElem?_eq_getElem (by have := HM.out; omega)⟩
      have HXI := Lib.hid hx
      have HYI := Lib.hid hy
      obtain ⟨gf, of, A1, c1, A3, c3, rfl, _, hcf, hl1, hl3⟩ := ms_at HA.out hx
      obtain ⟨gg, og, B1, d1, B3, d3, rfl, _, hcg, hl2, hl4⟩ := ms_at HB.out hy
      have HCK := Lib.hid (fun u (hb : Below w.heap.size w u) => HP.out i x y hx hy A1 c1 A3 c3 B1 d1 B3 d3 u (lst_keep hl1 fdR_keep (fun _ h => h) (bel_keep hb)) (lst_keep hl3 inR_keep (fun _ h => h) (bel_keep hb)) (lst_keep hl2 fdR_keep (fun _ h => h) (bel_keep hb)) (lst_keep hl4 inR_keep (fun _ h => h) (bel_keep hb)) hb)
      obtain ⟨n1, hn1⟩ : ∃ z, z = x.fields.length := ⟨_, rfl⟩
      obtain ⟨n2, hn2⟩ : ∃ z, z = y.fields.length := ⟨_, rfl⟩
      obtain ⟨n3, hn3⟩ : ∃ z, z = x.barred.length := ⟨_, rfl⟩
      obtain ⟨n4, hn4⟩ : ∃ z, z = y.barred.length := ⟨_, rfl⟩
      obtain ⟨s1, hs1⟩ : ∃ z, z = strOf x.name := ⟨_, rfl⟩
      obtain ⟨s2, hs2⟩ : ∃ z, z = strOf y.name := ⟨_, rfl⟩
      rw [← hn1, ← hn3] at hcf HCK
      rw [← hn2, ← hn4] at hcg HCK
      rw [← hs1] at hcf HCK
      rw [← hs2] at hcg HCK
      obtain ⟨p0, p1, p2⟩ := hcf _ HBL.out
      obtain ⟨r0, r1, r2⟩ := hcg _ HBL.out
      have ra := fun o => (hcg _ (HBL.out.alloc HBL.out.size o)).1
      have rb := fun o => (hcg _ (HBL.out.alloc HBL.out.size o)).2.1
      have rc := fun o => (hcg _ (HBL.out.alloc HBL.out.size o)).2.2
      obtain ⟨r, hr⟩ : ∃ r, r = decide (x = y) := ⟨_, rfl⟩
      have HR := Lib.hid hr
      rw [← hr] at HCK
      clear hx hy hr hcf hcg hl1 hl2 hl3 hl4 hn1 hn2 hn3 hn4 hs1 hs2
      have HB2 : Hid (∀ o p, Below w.heap.size w ((wr.alloc o).alloc p)) := Lib.hid (fun o p => (HBL.out.alloc HBL.out.size o).alloc (HBL.out.alloc HBL.out.size o).size p)
      cases r with
      | true =>
       go_wp2_with (go_at_fn kf; refine (HCK.out _ (HB2.out _ _)).mono ?_; rintro e w2 ⟨rfl, hb⟩; have HB3 := Lib.hid ((HB2.out _ _).trans (hb.mono (HB2.out _ _).size)); clear hb)
       go_roundg (g0 - 1)
       case measure => omega
       case rel => exact ⟨i + 1, by go_num, by omega, (fun j x y hj hx hy => by
                            by_cases hji : j < i
                            · exact HALL.out j x y hji hx hy
                            · have : j = i := by omega
                              subst this
                              have e1 := HXI.out.symm.trans hx
                              have e2 := HYI.out.symm.trans hy
                              injection e1 with e1
                              injection e2 with e2
                              rw [← e1, ← e2]
                              exact of_decide_eq_true HR.out.symm), HB3.out⟩
      | false =>
       have HO : Hid (decide (l = k) = false) := Lib.hid (decide_eq_false (lists_ne HXI.out HYI.out (of_decide_eq_false HR.out.symm)))
       go_wp2_with (go_at_fn kf; refine (HCK.out _ (HB2.out _ _)).mono ?_; rintro e w2 ⟨rfl, hb⟩; have HB3 := Lib.hid ((HB2.out _ _).trans (hb.mono (HB2.out _ _).size)); clear hb)
       go_ret
       exact ⟨ret_bool' HO.out.symm, HB3.out⟩
     · have ti : decide ((i : Int) < (n : Int)) = false := decide_eq_false (by omega)
       have HO : Hid (decide (l = k) = true) := Lib.hid (decide_eq_true (lists_eq (by have := HN.out; have := HM.out; omega) (fun j x y hx hy => HALL.out j x y (by have := (List.getElem?_eq_some_iff.mp hx).1; have := HN.out; omega) hx hy)))
       go_wp2
       go_ret
       exact ⟨ret_bool' HO.out.symm, HBL.out⟩
  · have t3 : ((n : Int) == (m : Int)) = false := beq_false_of_ne (by omega)
    have t4 : ((n : Int) != (m : Int)) = true := by simp; omega
    have t5 : ¬ n = m := hl
    have HO : Hid (decide (l = k) = false) := Lib.hid (decide_eq_false (fun e => hl (by rw [hn, hm, e])))
    clear h h' hn hm hp henter
    go_enter Tryz.func38, Tryz.ntmps38
    go_wp2
    go_ret
    exact ⟨ret_bool' HO.out.symm, Below.refl _ _⟩
end Go.Proofs.YtpbhokmpbcmdcaaGreatDoor

/- The program's Same: which enums, messages and schemas are the same. Conditions: those that each theorem names. -/
namespace Go.Proofs.YtpbhokmpbcmdcaaGreatDoor
open Go.RowKit
set_option linter.unusedVariables false
set_option maxRecDepth 100000

set_option maxHeartbeats 4000000 in
theorem ssame_en {S T : Nat → Prop} (w : World) {a b : En} {A B : Option Addr} {c d : Nat} (h : Lst 2 S vlR w A c a.values) (k : Lst 2 T vlR w B d b.values) :
    Calls Tryz.prog 37 #[.agg #[.string (strOf a.name), .slice A a.values.length c], .agg #[.string (strOf b.name), .slice B b.values.length d]] w fun e w' => e = .returned (.bool (decide (a = b))) ∧ Below w.heap.size w w' := by
  have HQ := Lib.hid (fun u (hb : Below w.heap.size w u) => equ_vl u (lst_keep h vlR_keep (fun _ h => h) (bel_keep hb)) (lst_keep k vlR_keep (fun _ h => h) (bel_keep hb)) rfl rfl)
  have HEQ : decide (a = b) = (decide (a.name = b.name) && decide (a.values = b.values)) := by
    rw [← Bool.decide_and]
    exact decide_eq_decide.mpr ⟨fun e => by rw [e]; exact ⟨rfl, rfl⟩, fun ⟨e1, e2⟩ => by cases a; cases b; dsimp only at e1 e2; rw [e1, e2]⟩
  rw [HEQ]
  obtain ⟨n, hn⟩ : ∃ n, n = a.values.length := ⟨_, rfl⟩
  obtain ⟨m, hm⟩ : ∃ m, m = b.values.length := ⟨_, rfl⟩
  obtain ⟨v, hv⟩ : ∃ v, v = decide (a.values = b.values) := ⟨_, rfl⟩
  rw [← hn, ← hm, ← hv] at HQ
  rw [← hn, ← hm, ← hv]
  obtain ⟨sa, hsa⟩ : ∃ s, s = strOf a.name := ⟨_, rfl⟩
  obtain ⟨sb, hsb⟩ : ∃ s, s = strOf b.name := ⟨_, rfl⟩
  have hs1 : (sa.toList == sb.toList) = decide (a.name = b.name) := by rw [hsa, hsb, strOf_beq]
  have hs2 : sa.toList = sb.toList ↔ a.name = b.name := by rw [hsa, hsb, str_list, str_list]
  rw [← hsa, ← hsb]
  have HBX := Lib.hid (bx2_start w #[.string sa, .slice A n c] #[.string sb, .slice B m d] 42 42)
  have r0 := obj_cell (HBX.out).b2_one 0
  have s0 := obj_cell (HBX.out).b2_two 0
  have r1 := obj_cell (HBX.out).b2_one 1
  have s1 := obj_cell (HBX.out).b2_two 1
  clear h k HEQ hn hm hv hsa hsb
  by_cases hnm : a.name = b.name
  · rw [decide_eq_true hnm]
    have t1 : (sa.toList == sb.toList) = true := by rw [hs1]; exact decide_eq_true hnm
    have t2 : sa.toList = sb.toList := hs2.2 hnm
    clear hs1 hs2 hnm
    go_enter Tryz.func37, Tryz.ntmps37
    go_wp2_with (go_at_call 83; refine (HQ.out _ HBX.out.b2_bel).mono ?_; rintro e w2 ⟨rfl, hb⟩; replace HBX := Lib.hid (bx2_step HBX.out hb); clear hb)
    go_ret
    exact ⟨rfl, HBX.out.b2_bel⟩
  · rw [decide_eq_false hnm]
    have t1 : (sa.toList == sb.toList) = false := by rw [hs1]; exact decide_eq_false hnm
    have t2 : ¬ sa.toList = sb.toList := fun e => hnm (hs2.1 e)
    clear hs1 hs2 hnm
    go_enter Tryz.func37, Tryz.ntmps37
    go_wp2
    go_ret
    exact ⟨rfl, HBX.out.b2_bel⟩

set_option maxHeartbeats 4000000 in
theorem ssame_ms {S1 S2 T1 T2 : Nat → Prop} (w : World) {a b : Ms} {A A2 B B2 : Option Addr} {c c2 d d2 : Nat} (h : Lst 7 S1 fdR w A c a.fields) (h2 : Lst 1 S2 inR w A2 c2 a.barred) (k : Lst 7 T1 fdR w B d b.fields) (k2 : Lst 1 T2 inR w B2 d2 b.barred) :
    Calls Tryz.prog 39 #[.agg #[.string (strOf a.name), .slice A a.fields.length c, .slice A2 a.barred.length c2], .agg #[.string (strOf b.name), .slice B b.fields.length d, .slice B2 b.barred.length d2]] w fun e w' => e = .returned (.bool (decide (a = b))) ∧ Below w.heap.size w w' := by
  have HQ := Lib.hid (fun u (hb : Below w.heap.size w u) => equ_fd u (lst_keep h fdR_keep (fun _ h => h) (bel_keep hb)) (lst_keep k fdR_keep (fun _ h => h) (bel_keep hb)) rfl rfl)
  have HQ2 := Lib.hid (fun u (hb : Below w.heap.size w u) => equ_in u (lst_keep h2 inR_keep (fun _ h => h) (bel_keep hb)) (lst_keep k2 inR_keep (fun _ h => h) (bel_keep hb)) rfl rfl)
  have HEQ : decide (a = b) = ((decide (a.name = b.name) && decide (a.fields = b.fields)) && decide (a.barred = b.barred)) := by
    rw [← Bool.decide_and, ← Bool.decide_and]
    exact decide_eq_decide.mpr ⟨fun e => by rw [e]; exact ⟨⟨rfl, rfl⟩, rfl⟩, fun ⟨⟨e1, e2⟩, e3⟩ => by cases a; cases b; dsimp only at e1 e2 e3; rw [e1, e2, e3]⟩
  rw [HEQ]
  obtain ⟨n, hn⟩ : ∃ n, n = a.fields.length := ⟨_, rfl⟩
  obtain ⟨m, hm⟩ : ∃ m, m = b.fields.length := ⟨_, rfl⟩
  obtain ⟨n2, hn2⟩ : ∃ n, n = a.barred.length := ⟨_, rfl⟩
  obtain ⟨m2, hm2⟩ : ∃ m, m = b.barred.length := ⟨_, rfl⟩
  obtain ⟨v, hv⟩ : ∃ v, v = decide (a.fields = b.fields) := ⟨_, rfl⟩
  obtain ⟨v2, hv2⟩ : ∃ v, v = decide (a.barred = b.barred) := ⟨_, rfl⟩
  rw [← hn, ← hm, ← hv] at HQ
  rw [← hn2, ← hm2, ← hv2] at HQ2
  rw [← hn, ← hm, ← hv, ← hn2, ← hm2, ← hv2]
  obtain ⟨sa, hsa⟩ : ∃ s, s = strOf a.name := ⟨_, rfl⟩
  obtain ⟨sb, hsb⟩ : ∃ s, s = strOf b.name := ⟨_, rfl⟩
  have hs1 : (sa.toList == sb.toList) = decide (a.name = b.name) := by rw [hsa, hsb, strOf_beq]
  have hs2 : sa.toList = sb.toList ↔ a.name = b.name := by rw [hsa, hsb, str_list, str_list]
  rw [← hsa, ← hsb]
  have HBX := Lib.hid (bx2_start w #[.string sa, .slice A n c, .slice A2 n2 c2] #[.string sb, .slice B m d, .slice B2 m2 d2] 37 37)
  have HK := Lib.hid (fun u (h : Bx2 w u (.cells #[.string sa, .slice A n c, .slice A2 n2 c2] 37 (0, 0)) (.cells #[.string sb, .slice B m d, .slice B2 m2 d2] 37 (0, 0))) => And.intro (obj_cell h.b2_one 2) (obj_cell h.b2_two 2))
  have r0 := obj_cell (HBX.out).b2_one 0
  have s0 := obj_cell (HBX.out).b2_two 0
  have r1 := obj_cell (HBX.out).b2_one 1
  have s1 := obj_cell (HBX.out).b2_two 1
  clear h h2 k k2 HEQ hn hm hv hn2 hm2 hv2 hsa hsb
  by_cases hnm : a.name = b.name
  · rw [decide_eq_true hnm]
    have t1 : (sa.toList == sb.toList) = true := by rw [hs1]; exact decide_eq_true hnm
    have t2 : sa.toList = sb.toList := hs2.2 hnm
    clear hs1 hs2 hnm
    cases v
    all_goals
      go_enter Tryz.func39, Tryz.ntmps39
      go_wp2_with (first
        | (go_at_call 84; refine (HQ.out _ HBX.out.b2_bel).mono ?_; rintro e w2 ⟨rfl, hb⟩; replace HBX := Lib.hid (bx2_step HBX.out hb); obtain ⟨r2, s2⟩ := HK.out _ HBX.out; clear hb)
        | (go_at_call 85; refine (HQ2.out _ HBX.out.b2_bel).mono ?_; rintro e w2 ⟨rfl, hb⟩; replace HBX := Lib.hid (bx2_step HBX.out hb); clear hb))
      go_ret
      exact ⟨rfl, HBX.out.b2_bel⟩
  · rw [decide_eq_false hnm]
    have t1 : (sa.toList == sb.toList) = false := by rw [hs1]; exact decide_eq_false hnm
    have t2 : ¬ sa.toList = sb.toList := fun e => hnm (hs2.1 e)
    clear hs1 hs2 hnm
    go_enter Tryz.func39, Tryz.ntmps39
    go_wp2
    go_ret
    exact ⟨rfl, HBX.out.b2_bel⟩

set_option maxHeartbeats 4000000 in
theorem ssame_any {S T : Nat → Nat → Prop} (w : World) {A A2 B B2 : Option Addr} {n cap n2 cap2 m cb m2 cb2 : Nat} {s t : Sc} (h : ScAt S w A n cap A2 n2 cap2 s) (k : ScAt T w B m cb B2 m2 cb2 t) :
    Calls Tryz.prog 13 #[.agg #[.slice A n cap, .slice A2 n2 cap2], .agg #[.slice B m cb, .slice B2 m2 cb2]] w fun e w' => e = .returned (.bool (decide (s = t))) ∧ Below w.heap.size w w' := by
  have HE := Lib.hid (fun u (hb : Below w.heap.size w u) => eqf_en u (scAt_bel h hb).s_e (scAt_bel k hb).s_e h.s_ne k.s_ne 37 (fun _ _ => rfl) (fun i x y _ _ A1 c1 B1 d1 u h1 h2 _ => ssame_en u h1 h2))
  have HM := Lib.hid (fun u (hb : Below w.heap.size w u) => eqf_ms u (scAt_bel h hb).s_m (scAt_bel k hb).s_m h.s_nm k.s_nm 39 (fun _ _ => rfl) (fun i x y _ _ A1 c1 A3 c3 B1 d1 B3 d3 u h1 h2 h3 h4 _ => ssame_ms u h1 h2 h3 h4))
  have HEQ : decide (s = t) = (decide (s.enums = t.enums) && decide (s.msgs = t.msgs)) := by
    rw [← Bool.decide_and]
    exact decide_eq_decide.mpr ⟨fun e => by rw [e]; exact ⟨rfl, rfl⟩, fun ⟨e1, e2⟩ => by cases s; cases t; dsimp only at e1 e2; rw [e1, e2]⟩
  rw [HEQ]
  obtain ⟨v, hv⟩ : ∃ v, v = decide (s.enums = t.enums) := ⟨_, rfl⟩
  obtain ⟨v2, hv2⟩ : ∃ v, v = decide (s.msgs = t.msgs) := ⟨_, rfl⟩
  rw [← hv] at HE
  rw [← hv2] at HM
  rw [← hv, ← hv2]
  have HBX := Lib.hid (bx2_start w #[.slice A n cap, .slice A2 n2 cap2] #[.slice B m cb, .slice B2 m2 cb2] 25 25)
  have HK := Lib.hid (fun u (h : Bx2 w u (.cells #[.slice A n cap, .slice A2 n2 cap2] 25 (0, 0)) (.cells #[.slice B m cb, .slice B2 m2 cb2] 25 (0, 0))) => And.intro (obj_cell h.b2_one 1) (obj_cell h.b2_two 1))
  have r0 := obj_cell (HBX.out).b2_one 0
  have s0 := obj_cell (HBX.out).b2_two 0
  clear h k HEQ hv hv2
  cases v
  all_goals
    go_enter Tryz.func13, Tryz.ntmps13
    go_wp2_with (first
      | (go_at_call 36; refine (HE.out _ HBX.out.b2_bel).mono ?_; rintro e w2 ⟨rfl, hb⟩; replace HBX := Lib.hid (bx2_step HBX.out hb); obtain ⟨r2, s2⟩ := HK.out _ HBX.out; clear hb)
      | (go_at_call 38; refine (HM.out _ HBX.out.b2_bel).mono ?_; rintro e w2 ⟨rfl, hb⟩; replace HBX := Lib.hid (bx2_step HBX.out hb); clear hb))
    go_ret
    exact ⟨rfl, HBX.out.b2_bel⟩
end Go.Proofs.YtpbhokmpbcmdcaaGreatDoor
