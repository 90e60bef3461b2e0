/- Several texts in one: RzM, SqLaw, SqBk. What each proves, and its conditions, stands at its own head. -/
import Derived.Test.YtcjjphioeneiiaaGreatDoorPkSB36
import Derived.Test.YtcjjphioeneiiaaGreatDoorPkSB33
import Derived.Test.YtcjjphioeneiiaaGreatDoorPkSB4
import Derived.Deep.RegionLaw
import Derived.Test.YtcjjphioeneiiaaGreatDoorPkSB35
import Derived.Test.YtcjjphioeneiiaaGreatDoorPkSB16
import Derived.Test.YtcjjphioeneiiaaGreatDoorPkSB17
import Derived.Deep.RegionHeld3
import Derived.OrdersHeld
import Derived.WalkKit
import Derived.OwnWalk
import Derived.Lib.Hide
import Derived.IntWalk
import Derived.Deep.LoopGhost
import Derived.Deep.CutRange
import Derived.Test.YtcjjphioeneiiaaGreatDoorPkSB31
import Derived.Test.YtcjjphioeneiiaaGreatDoorPkSB41
import Derived.Test.YtcjjphioeneiiaaGreatDoorPkSB26
/- The document's layer 18: Parse. Conditions: those that each theorem names. -/
namespace Go.Proofs.YtcjjphioeneiiaaGreatDoor
open Go.RowKit
set_option linter.unusedVariables false
set_option maxRecDepth 100000

theorem vals_cnt (l : List Tk) : ∀ (f : Nat) (x : Ps), (valsP l f x).1.length ≤ f
 | 0, x => Nat.le_refl _
 | f + 1, x => by
   rw [valsP]
   split
   ·exact Nat.zero_le _
   ·split
    ·exact Nat.zero_le _
    ·have := vals_cnt l f (needP l (numP l (needP l (nameP l x).2 [61])).2 [59])
     simp only [List.length_cons]
     omega
theorem lines_cnt (l : List Tk) : ∀ (f : Nat) (x : Ps), (linesP l f x).1.1.length ≤ f ∧ (linesP l f x).1.2.length + x.at_i ≤ (linesP l f x).2.at_i
 | 0, x => ⟨Nat.le_refl _, by simp [linesP]⟩
 | f + 1, x => by
   rw [linesP]
   split
   ·simp
   ·split
    ·exact ⟨Nat.zero_le _, by show 0 + x.at_i ≤ x.at_i + 1; omega⟩
    ·split
     ·have h := lines_cnt l f (barsP l (nextP x)).2
      have h2 := bars_len l (nextP x)
      have h3 : (nextP x).at_i = x.at_i + 1 := rfl
      dsimp only
      rw [List.length_append]
      exact ⟨by omega, by omega⟩
     ·have h := lines_cnt l f (fieldP l x).2
      have h2 := field_ge l x
      dsimp only
      rw [List.length_cons]
      exact ⟨by omega, by omega⟩
theorem msg_cnt {l : List Tk} (hE : EndOk l) {x : Ps} (h : x.at_i < l.length) : (msgP l x).1.fields.length ≤ l.length + 1 ∧ (msgP l x).1.barred.length ≤ l.length + 1 := by
 have h1 := lines_cnt l (l.length + 1) (needP l (nameP l x).2 [123])
 have h2 := msg_in hE h
 exact ⟨h1.1, by have := h1.2; show (linesP l (l.length + 1) (needP l (nameP l x).2 [123])).1.2.length ≤ _; have h3 : (linesP l (l.length + 1) (needP l (nameP l x).2 [123])).2.at_i < l.length := h2; omega⟩
theorem enum_cnt (l : List Tk) (x : Ps) : (enumP l x).1.values.length ≤ l.length + 1 := vals_cnt l _ _

/-- What Parse answers. -/
def ParTo (w : World) (R : Sc × Int × Int) (e : Ending) (w' : World) : Prop :=
 ∃ B n c B2 n2 c2, e = .returned (.tuple #[.agg #[.slice B n c, .slice B2 n2 c2], .int .i64 R.2.1, .int .i64 R.2.2]) ∧ ScAt (fun _ g => w.heap.size ≤ g) w' B n c B2 n2 c2 R.1 ∧ Below w.heap.size w w'
theorem par_none {w w' : World} {a b : Int} (hb : Below w.heap.size w w') : ParTo w (⟨[], []⟩, a, b) (.returned (.tuple #[.agg #[.slice none 0 0, .slice none 0 0], .int .i64 a, .int .i64 b])) w' :=
 ⟨none, 0, 0, none, 0, 0, rfl, ⟨lst_empty _ _ _ (by decide) (fun _ => rfl), lst_empty _ _ _ (by decide) (fun _ => rfl), rfl, rfl⟩, hb⟩
theorem two_set {w : World} {R : Nat} {a b : Value} (h : w.heap[R]? = some (.cells #[a, b] 26 (0, 0))) (u0 u1 : Value) : ((w.setCell ⟨R, 0, none⟩ u0).setCell ⟨R, 1, none⟩ u1).heap[R]? = some (.cells #[u0, u1] 26 (0, 0)) := by
 have k1 := obj_set h 0 u0
 have k2 := obj_set k1 1 u1
 simpa using k2
theorem parseT_bad {t : List UInt8} {L : List Tk} {y : Ps} {X : List En × List Ms} (hL : L = (lexT t 6000).1) (hC : (lexT t 6000).2.2 = 0) (hp : partsP L (L.length + 1) ⟨0, false⟩ = (X, y)) (hb : y.at_bad = true) : parseT t = (⟨[], []⟩, ((tokOf L y.at_i).pos : Int), 2) := by
 subst hL
 unfold parseT
 rw [if_neg (by rw [hC]; decide), hp, if_pos hb]
theorem parseT_ok {t : List UInt8} {L : List Tk} {y : Ps} {es : List En} {ms : List Ms} (hL : L = (lexT t 6000).1) (hC : (lexT t 6000).2.2 = 0) (hp : partsP L (L.length + 1) ⟨0, false⟩ = ((es, ms), y)) (hb : y.at_bad = false) : parseT t = if checkT (sortedS (typedS ⟨es, ms⟩)) ≠ 0 then (⟨[], []⟩, (t.length : Int), checkT (sortedS (typedS ⟨es, ms⟩))) else (sortedS (typedS ⟨es, ms⟩), (t.length : Int), 0) := by
 subst hL
 unfold parseT
 rw [if_neg (by rw [hC]; decide), hp, if_neg (by rw [hb]; decide)]
theorem scAt_else {B : Nat} {w w' : World} {A A2 : Option Addr} {n cap n2 cap2 : Nat} {s : Sc} (h : ScAt (fun _ g => B ≤ g) w A n cap A2 n2 cap2 s) (hk : ∀ g, B ≤ g → g < w.heap.size → w'.heap[g]? = w.heap[g]?) : ScAt (fun _ g => B ≤ g) w' A n cap A2 n2 cap2 s :=
 ⟨lst_keep h.s_e (enR_keep (fun _ _ h => h) (fun _ p hp hlt => World.cell?_of_block (hk p.block hp hlt))) (fun _ h => h) (fun p hp hlt => World.cell?_of_block (hk p.block hp hlt)), lst_keep h.s_m (msR_keep (fun _ _ h => h) (fun _ p hp hlt => World.cell?_of_block (hk p.block hp hlt))) (fun _ h => h) (fun p hp hlt => World.cell?_of_block (hk p.block hp hlt)), h.s_ne, h.s_nm⟩
theorem scAt_weak {B B' : Nat} {w : World} {A A2 : Option Addr} {n cap n2 cap2 : Nat} {s : Sc} (h : ScAt (fun _ g => B ≤ g) w A n cap A2 n2 cap2 s) (hB : B' ≤ B) : ScAt (fun _ g => B' ≤ g) w A n cap A2 n2 cap2 s :=
 ⟨lst_keep h.s_e (enR_keep (fun _ _ h => Nat.le_trans hB h) (fun _ _ _ _ => rfl)) (fun _ h => Nat.le_trans hB h) (fun _ _ _ => rfl), lst_keep h.s_m (msR_keep (fun _ _ h => Nat.le_trans hB h) (fun _ _ _ _ => rfl)) (fun _ h => Nat.le_trans hB h) (fun _ _ _ => rfl), h.s_ne, h.s_nm⟩
def sz0 : Array Value := #[.slice none 0 0, .slice none 0 0]
end Go.Proofs.YtcjjphioeneiiaaGreatDoor

/- What is asked of the program's layer 18, and the law SparseParses. Conditions: those that each theorem names. -/
namespace Go.Proofs.YtcjjphioeneiiaaGreatDoor
open Go.RowKit
set_option linter.unusedVariables false
set_option maxRecDepth 100000

/-- What Parse is asked to answer. -/
def ParOk (w : World) (R : Sc × Int × Int) (e : Ending) (w' : World) : Prop :=
 ∃ B c B2 c2, e = .returned (.tuple #[.agg #[.slice B R.1.enums.length c, .slice B2 R.1.msgs.length c2], .int .i64 R.2.1, .int .i64 R.2.2]) ∧ ScAt (fun _ _ => True) w' B R.1.enums.length c B2 R.1.msgs.length c2 R.1 ∧ Below w.heap.size w w'
def lvT1 : List UInt8 := [109, 101, 115, 115, 97, 103, 101, 32, 77, 123, 105, 110, 116, 51, 50, 32, 97, 61, 49, 59, 125]
def lvT2 : List UInt8 := [109, 101, 115, 115, 97, 103, 101, 32, 77, 123, 105, 110, 116, 51, 50, 32, 97, 32, 49, 59, 125]
/-- What is asked, of texts of which this holds. -/
structure SparseOk (Q : List UInt8 → Prop) (E : World → Prop) : Prop where
 sqrides : ∀ w w', E w → Below w.heap.size w w' → E w'
 sqparse : ∀ (t : List UInt8) w, E w → t.length ≤ 6000 → Q t → Calls Tryz.prog 7 #[.string (strOf t)] w (ParOk w (parseT t))
 sqlv1 : Q lvT1
 sqlv2 : Q lvT2
 sqtext : ∀ s, checkT s = 0 → ScOk s → Q (schText s)
theorem sqnum_any (k : Int) (w : World) : Calls Tryz.prog 10 #[.int .i64 k] w fun e w' => e = .returned (.int .i64 k) ∧ w = w' := by
 go_enter Tryz.func10, Tryz.ntmps10
 go_wp2
 go_ret
 exact ⟨rfl, rfl⟩
def lvQ : Fd := ⟨[97], 1, 1, [], false, false, []⟩
theorem live_one : parseT lvT1 = (⟨[], [⟨[77], [lvQ], []⟩]⟩, 21, 0) := by kernel_rfl
theorem live_two : parseT lvT2 = (⟨[], []⟩, 18, 2) := by kernel_rfl
set_option maxHeartbeats 8000000 in
theorem sqlive_any {Q : List UInt8 → Prop} {E : World → Prop} (ok : SparseOk Q E) (w : World) (env : E w) : Calls Tryz.prog 6 #[] w fun e w' => e = .returned (.bool true) ∧ Below w.heap.size w w' := by
 have HP1 := Lib.hid (ok.sqparse lvT1 w env (by decide) ok.sqlv1)
 have HP2 := Lib.hid (fun u (hb : Below w.heap.size w u) => ok.sqparse lvT2 u (ok.sqrides _ _ env hb) (by decide) ok.sqlv2)
 rw [live_one] at HP1
 rw [live_two] at HP2
 have HNM := Lib.hid (fun k u => sqnum_any k u)
 clear ok env
 go_enter Tryz.func6, Tryz.ntmps6
 have K0 := True.intro
 go_wp2_with (first
  | (clear K0; go_at_call 7; refine HP1.out.mono ?_; rintro e w1 ⟨B, c, B2, c2, rfl, hs, hb⟩
     have HS := Lib.hid hs
     have HB := Lib.hid hb
     have HX := Lib.hid (bx_start w1 #[.slice B 0 c, .slice B2 1 c2] 26)
     have HBX := Lib.hid (hb.trans (HX.out.b_bel.mono hb.size))
     have K1 := True.intro
     clear hs hb)
  | (clear K1; go_at_call 7; refine (HP2.out _ HBX.out).mono ?_; rintro e w2 ⟨D, d, D2, d2, rfl, -, hb⟩
     have HB2 := Lib.hid (HBX.out.trans (hb.mono HBX.out.size))
     have HX2 := Lib.hid (bx_step HX.out hb)
     have hx := (up1 w2 (.cells #[.slice D 0 d, .slice D2 0 d2] 26)).block w1.heap.size (lt_of_block HX2.out.b_blk)
     have q0 := obj_cell (hx.trans HX2.out.b_blk) 0
     have q1 := obj_cell (hx.trans HX2.out.b_blk) 1
     obtain ⟨gm, om, A1, cap1, A3, cap3, rfl, -, hcx, -, -⟩ := ms_at (S := fun _ _ => True) (l := [⟨[77], [lvQ], []⟩]) HS.out.s_m (i := 0) (x := ⟨[77], [lvQ], []⟩) rfl
     obtain ⟨-, c1, -⟩ := hcx _ (HX2.out.b_bel.trans ((up1 w2 (.cells #[.slice D 0 d, .slice D2 0 d2] 26)).mono HX2.out.b_bel.size))
     have HB3 := Lib.hid (HB2.out.trans ((up1 w2 (.cells #[.slice D 0 d, .slice D2 0 d2] 26)).mono HB2.out.size))
     have q2 := HS.out.s_m.l_le
     have q3 := HS.out.s_m.l_max
     unfold maxLen at q3
     clear hb hx hcx)
  | (go_at_call 10; refine (HNM.out _ _).mono ?_; rintro e w9 ⟨rfl, h9⟩; rw [← h9]; clear h9 w9))
 go_ret
 exact ⟨rfl, HB3.out⟩

theorem same_self (s : Sc) : decide (s = s) = true := decide_eq_true rfl
end Go.Proofs.YtcjjphioeneiiaaGreatDoor

/- The law SparseBack. Conditions: those that each theorem names. -/
namespace Go.Proofs.YtcjjphioeneiiaaGreatDoor
open Go.RowKit
set_option linter.unusedVariables false
set_option maxRecDepth 100000

set_option maxHeartbeats 16000000 in
theorem sparseback_walk {Q : List UInt8 → Prop} {E : World → Prop} (ok : SparseOk Q E) (w : World) (env : E w) {S : Nat → Nat → Prop} {A A2 : Option Addr} {n cap n2 cap2 : Nat} {s : Sc} (h : ScAt S w A n cap A2 n2 cap2 s) (hok : ScOk s) :
 Calls Tryz.prog 4 #[.agg #[.slice A n cap, .slice A2 n2 cap2]] w fun e w' => e = .returned (.bool true) ∧ Below w.heap.size w w' := by
 have HLV := Lib.hid (fun u (hb : Below w.heap.size w u) => sqlive_any ok u (ok.sqrides _ _ env hb))
 have HSM := Lib.hid (fun u (hb : Below w.heap.size w u) => rvsmall_any u (scAt_bel h hb) hok)
 have HCK := Lib.hid (fun u (hb : Below w.heap.size w u) => rvcheck_any u (scAt_bel h hb))
 have HNM := Lib.hid (fun k u => sqnum_any k u)
 have HBX := Lib.hid (bx_start w #[.slice A n cap, .slice A2 n2 cap2] 26)
 have r0 := obj_cell HBX.out.b_blk 0
 have r1 := obj_cell HBX.out.b_blk 1
 by_cases hall : smallT s = true ∧ checkT s = 0
 case neg =>
  obtain ⟨b1, hb1⟩ : ∃ b, b = smallT s := ⟨_, rfl⟩
  obtain ⟨x1, hx1⟩ : ∃ b, b = checkT s := ⟨_, rfl⟩
  rw [← hb1, ← hx1] at hall
  rw [← hb1] at HSM
  rw [← hx1] at HCK
  clear ok env h hok hb1 hx1
  have hcase : b1 = false ∨ (b1 = true ∧ (x1 == 0) = false ∧ (x1 != 0) = true) := by
   cases b1 with
   | false => exact .inl rfl
   | true =>
     have e3 : (x1 == 0) = false := beq_false_of_ne (fun e => hall ⟨rfl, e⟩)
     exact .inr ⟨rfl, e3, by rw [bne, e3]; rfl⟩
  clear hall
  rcases hcase with rfl | ⟨rfl, e1, e2⟩
  all_goals
   go_enter Tryz.func4, Tryz.ntmps4
   go_wp2_with (first
    | (go_at_call 11; refine (HSM.out _ HBX.out.b_bel).mono ?_; rintro e w1 ⟨rfl, hb⟩; replace HBX := Lib.hid (bx_step HBX.out hb); replace r0 := obj_cell HBX.out.b_blk 0; replace r1 := obj_cell HBX.out.b_blk 1; clear hb)
    | (go_at_call 12; refine (HCK.out _ HBX.out.b_bel).mono ?_; rintro e w2 ⟨rfl, hb⟩; replace HBX := Lib.hid (bx_step HBX.out hb); clear hb)
    | (go_at_call 6; refine (HLV.out _ HBX.out.b_bel).mono ?_; rintro e w4 ⟨rfl, hb⟩; replace HBX := Lib.hid (bx_step HBX.out hb); clear hb))
   go_ret
   exact ⟨rfl, HBX.out.b_bel⟩
 case pos =>
  obtain ⟨hs, hc⟩ := hall
  have HPT := Lib.hid (fun u (hb : Below w.heap.size w u) => ok.sqparse (schText s) u (ok.sqrides _ _ env hb) (text_short hc) (ok.sqtext s hc hok))
  rw [parse_back hc hok] at HPT
  have HTX := Lib.hid (fun u (hb : Below w.heap.size w u) => rytext_any u (scAt_bel h hb) hs hok)
  have hlen : (strOf (schText s)).size = (schText s).length := str_size _
  obtain ⟨sx, hsx⟩ : ∃ sx, sx = strOf (schText s) := ⟨_, rfl⟩
  rw [← hsx] at HPT HTX hlen
  rw [← hlen] at HPT
  have H := Lib.hid h
  have hne := h.s_ne
  have hnm := h.s_nm
  have HP : Hid (∀ u, Below w.heap.size w u → Calls Tryz.prog 7 #[.string sx] u fun e w' => ∃ B c B2 c2, e = .returned (.tuple #[.agg #[.slice B n c, .slice B2 n2 c2], .int .i64 (sx.size : Int), .int .i64 0]) ∧ ScAt (fun _ _ => True) w' B n c B2 n2 c2 s ∧ Below u.heap.size u w') := Lib.hid (by
   intro u hb
   rw [hne, hnm]
   exact HPT.out u hb)
  rw [hs] at HSM
  rw [hc] at HCK
  have z1 : sx.size ≤ 6000 := by rw [hlen]; exact text_short hc
  clear ok env h hok hs hc hlen hsx HPT hne hnm
  go_enter Tryz.func4, Tryz.ntmps4
  go_wp2_with (first
   | (go_at_call 11; refine (HSM.out _ HBX.out.b_bel).mono ?_; rintro e w1 ⟨rfl, hb⟩; replace HBX := Lib.hid (bx_step HBX.out hb); replace r0 := obj_cell HBX.out.b_blk 0; replace r1 := obj_cell HBX.out.b_blk 1; clear hb)
   | (go_at_call 12; refine (HCK.out _ HBX.out.b_bel).mono ?_; rintro e w2 ⟨rfl, hb⟩; replace HBX := Lib.hid (bx_step HBX.out hb); replace r0 := obj_cell HBX.out.b_blk 0; replace r1 := obj_cell HBX.out.b_blk 1; clear hb)
   | (go_at_call 13; refine (HTX.out _ HBX.out.b_bel).mono ?_; rintro e w3 ⟨rfl, hb⟩; first
    | (have HX5 := Lib.hid (bx_step HX4.out hb); replace HBX := Lib.hid (bx_step HBX.out hb); replace r0 := obj_cell HBX.out.b_blk 0; replace r1 := obj_cell HBX.out.b_blk 1; have t0 := obj_cell HX5.out.b_blk 0; have t1 := obj_cell HX5.out.b_blk 1; have hsm := (rvsame_any w3 (scAt_bel HS4.out HX5.out.b_bel) (scAt_bel H.out HBX.out.b_bel)); rw [same_self] at hsm; have HSAM := Lib.hid hsm; clear hb hsm)
    | (replace HBX := Lib.hid (bx_step HBX.out hb); clear hb))
   | (go_at_call 7; refine (HP.out _ HBX.out.b_bel).mono ?_; rintro e w4 ⟨B, c, B2, c2, rfl, hs4, hb⟩
      have HS4 := Lib.hid hs4
      have HX4 := Lib.hid (bx_start w4 #[.slice B n c, .slice B2 n2 c2] 26)
      replace HBX := Lib.hid (bx_step (bx_step HBX.out hb) (up1 w4 (.cells #[.slice B n c, .slice B2 n2 c2] 26)))
      replace r0 := obj_cell HBX.out.b_blk 0
      replace r1 := obj_cell HBX.out.b_blk 1
      clear hs4 hb)
   | (go_at_call 9; refine HSAM.out.mono ?_; rintro e w6 ⟨rfl, hb⟩; replace HBX := Lib.hid (bx_step HBX.out hb); clear hb)
   | (go_at_call 10; refine (HNM.out _ _).mono ?_; rintro e w9 ⟨rfl, h9⟩; rw [← h9]; clear h9 w9)
   | (go_at_call 6; refine (HLV.out _ HBX.out.b_bel).mono ?_; rintro e w8 ⟨rfl, hb⟩; replace HBX := Lib.hid (bx_step HBX.out hb); clear hb))
  go_ret
  exact ⟨rfl, HBX.out.b_bel⟩
end Go.Proofs.YtcjjphioeneiiaaGreatDoor
