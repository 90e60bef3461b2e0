/- Several texts in one: ScP, ScQ, NmP. What each proves, and its conditions, stands at its own head. -/
import Derived.Test.YtpfdnggacpehdaaGreatDoorChecked
import Derived.Test.YtpfdnggacpehdaaGreatDoorPkDU4
import Derived.Test.YtpfdnggacpehdaaGreatDoorPkDU0
import Derived.OpenShut
import Derived.LaidLaws
import Derived.Lib.LaidTab
import Derived.Shelf.Vars
import Derived.Stop.Joined
import Derived.WalkKit
import Derived.OwnWalk
import Derived.RowKitTokens
import Derived.Lib.Hide
import Derived.Test.YtpfdnggacpehdaaGreatDoorPkDU5
import Derived.Test.YtpfdnggacpehdaaGreatDoorPkDU2
import Derived.Stop.LaidErr
/- The program's table of types as a law's row lays it (`ScEnv`), and its rows in plain words. Conditions: those that each theorem names. -/
namespace Go.Proofs.YtpfdnggacpehdaaGreatDoor
open Go.RowKit
set_option linter.unusedVariables false
set_option maxRecDepth 100000

def rowW (i : Nat) : List UInt8 := (typesL[i]?).getD []
def rowI (i : Nat) : Int := (([0, 0, 0, 0, 0, 0, 0, 0, 5, 1, 5, 1, 2, 2, 0, 2] : List Int)[i]?).getD 0
def rowM (i : Nat) : Int := (([0, 7, 15, 3, 11, 7, 15, 1, 3, 11, 7, 15, 0, 0, 5, 0] : List Int)[i]?).getD 0
def rowX (i : Nat) : Int := (([0, 0, 0, 4294967295, 0, 0, 0, 1, 4294967295, 0, 0, 0, 0, 0, 0, 0] : List Int)[i]?).getD 0
def rowC (i : Nat) : List Value := [.string (strOf (rowW i)), .int .i64 (rowI i), .int .i64 (rowM i), .int .u64 (rowX i)]
/-- The table, row for row. -/
structure ScEnv (w : World) : Prop where
  c0 : ∀ i : Nat, i < 16 → w.cell? ⟨0, i * 4, none⟩ = some (.string (strOf (rowW i)))
  c1 : ∀ i : Nat, i < 16 → w.cell? ⟨0, i * 4 + 1, none⟩ = some (.int .i64 (rowI i))
  c2 : ∀ i : Nat, i < 16 → w.cell? ⟨0, i * 4 + 2, none⟩ = some (.int .i64 (rowM i))
  c3 : ∀ i : Nat, i < 16 → w.cell? ⟨0, i * 4 + 3, none⟩ = some (.int .u64 (rowX i))
theorem cell_goes {w w' : World} {p : Addr} {v : Value} (h : w.cell? p = some v) (hb : Below w.heap.size w w') : w'.cell? p = some v := (hb.cell (World.block_lt_of_cell? w _ h)).trans h
theorem ScEnv.rides {w w' : World} (h : ScEnv w) (hb : Below w.heap.size w w') : ScEnv w' :=
  ⟨fun i hi => cell_goes (h.c0 i hi) hb, fun i hi => cell_goes (h.c1 i hi) hb, fun i hi => cell_goes (h.c2 i hi) hb, fun i hi => cell_goes (h.c3 i hi) hb⟩

theorem gv_sc : Tryz.prog.globalNamed "ecdysis/scalar.rows" = some 0 := by kernel_rfl
theorem ge_sc : (Tryz.prog.globals[0]?).map (·.type) = some 154 := by kernel_rfl
theorem ce_row : Tryz.prog.cellsOf 126 = 4 := by kernel_rfl
theorem ce_rows : Tryz.prog.cellsOf 154 = 64 := by kernel_rfl
theorem ce_str1 : Tryz.prog.cellsOf 9 = 1 := by kernel_rfl
theorem ce_int1 : Tryz.prog.cellsOf 3 = 1 := by kernel_rfl
theorem ce_u641 : Tryz.prog.cellsOf 62 = 1 := by kernel_rfl
def rowD {H : Type} (i : Nat) : DataW H := .agg [.lit (.string (rowW i)), .lit (.int .i64 (rowI i)), .lit (.int .i64 (rowM i)), .lit (.int .u64 (rowX i))]
def rowsD {H : Type} : DataW H := .agg ((List.range 16).map rowD)

theorem row_of {H : Type} {enc : TypeId × Value → H} {w : World} {base : Nat} {sp : Nat → Bool} {held : Bool} {m : Nat} {cs : List Value} {y : DataW H × List MemPlace} (i : Nat)
    (hf : DataW.trod enc Tryz.prog w base sp held m 126 cs = some y) (hy : y.1 = rowD i) : cs = rowC i := by
  obtain ⟨ys, m, rfl, ex, hl, hn, he⟩ := DataW.trod_struct Tryz.underlying126 hf
  rw [ce_row] at hl
  match cs, hl, ys, hn with
  | [v0, v1, v2, v3], _, [y0, y1, y2, y3], _ =>
    have g0 : DataW.trod enc Tryz.prog w base sp held m 9 (([v0, v1, v2, v3].drop 0).take (Tryz.prog.cellsOf 9)) = some y0 := he 0 _ rfl
    have g1 : DataW.trod enc Tryz.prog w base sp held m 3 (([v0, v1, v2, v3].drop 1).take (Tryz.prog.cellsOf 3)) = some y1 := he 1 _ rfl
    have g2 : DataW.trod enc Tryz.prog w base sp held m 3 (([v0, v1, v2, v3].drop 2).take (Tryz.prog.cellsOf 3)) = some y2 := he 2 _ rfl
    have g3 : DataW.trod enc Tryz.prog w base sp held m 62 (([v0, v1, v2, v3].drop 3).take (Tryz.prog.cellsOf 62)) = some y3 := he 3 _ rfl
    rw [ce_str1] at g0
    rw [ce_int1] at g1 g2
    rw [ce_u641] at g3
    simp only [List.drop_zero, List.drop_succ_cons, List.take_succ_cons, List.take_zero] at g0 g1 g2 g3
    obtain ⟨s0, q0, z0, _⟩ := DataW.trod_string Tryz.underlying9 g0
    obtain ⟨n1, q1, z1, w1⟩ := DataW.trod_int Tryz.underlying3 g1
    obtain ⟨n2, q2, z2, w2⟩ := DataW.trod_int Tryz.underlying3 g2
    obtain ⟨n3, q3, z3, w3⟩ := DataW.trod_int Tryz.underlying62 g3
    simp at q0 q1 q2 q3
    subst q0 q1 q2 q3
    have e := (congrArg Prod.fst ex).symm.trans hy
    simp only [List.map_cons, List.map_nil, z0, z1, z2, z3, rowD] at e
    simp only [DataW.agg.injEq, List.cons.injEq, DataW.lit.injEq, Lit.string.injEq, Lit.int.injEq, true_and, and_true] at e
    obtain ⟨e0, e1, e2, e3⟩ := e
    unfold rowC
    rw [← e0, e1, e2, e3]
    have : s0 = strOf s0.data.toList := by cases s0; simp [strOf]
    rw [← this]
theorem sc_made {W : World} {r1 : List (String × DataW Unit)} (h : laidMet Tryz.prog (("ecdysis/scalar.rows", rowsD) :: r1) W) : ScEnv W := by
  obtain ⟨ps, ⟨g', t', cs, fuel, p, q, hg', ht', hvar, hd, _, _⟩, _⟩ := h
  obtain rfl := Option.some.inj (gv_sc.symm.trans hg')
  obtain rfl := Option.some.inj (ge_sc.symm.trans ht')
  obtain ⟨ys, m, rfl, ex, hl, hn, he⟩ := DataW.trod_array Tryz.underlying154 hd
  rw [ce_rows] at hl
  rw [ce_row] at he
  have e2 : (ys.map Prod.fst) = (List.range 16).map rowD := by
    have e := congrArg Prod.fst ex
    simp only [rowsD, DataW.agg.injEq] at e
    exact e.symm
  have hrow : ∀ i, i < 16 → (cs.toList.drop (i * 4)).take 4 = rowC i := by
    intro i hi
    have h1 := he i hi
    have h2 := congrArg (·[i]?) e2
    have hy : ∃ y, ys[i]? = some y := ⟨_, List.getElem?_eq_getElem (by omega)⟩
    obtain ⟨y, hy⟩ := hy
    rw [hy] at h1
    refine row_of i h1 ?_
    simp only [List.getElem?_map, hy, Option.map_some] at h2
    rw [List.getElem?_range hi] at h2
    exact Option.some.inj h2
  have hcell : ∀ i j, i < 16 → j < 4 → W.cell? ⟨0, i * 4 + j, none⟩ = (rowC i)[j]? := by
    intro i j hi hj
    rw [World.var?_cell gv_sc hvar (i * 4 + j), ← hrow i hi, List.getElem?_take, if_pos hj, List.getElem?_drop]
    simp
  exact ⟨fun i hi => hcell i 0 hi (by omega), fun i hi => hcell i 1 hi (by omega), fun i hi => hcell i 2 hi (by omega), fun i hi => hcell i 3 hi (by omega)⟩
end Go.Proofs.YtpfdnggacpehdaaGreatDoor

/- The program's answers on types, over its table. Conditions: ScEnv; those that each theorem names. -/
namespace Go.Proofs.YtpfdnggacpehdaaGreatDoor
open Go.RowKit
set_option linter.unusedVariables false
set_option maxRecDepth 100000

def tyI (ty : Int) : Nat := if 0 < ty ∧ ty < 16 then ty.toNat else 0
def knownB (ty : Int) : Bool := decide (0 < ty) && decide (ty < 16)
def rowV (i : Nat) : Value := .agg #[.string (strOf (rowW i)), .int .i64 (rowI i), .int .i64 (rowM i), .int .u64 (rowX i)]

theorem pknown_any (ty : Int) (w : World) : Calls Tryz.prog 118 #[.int .i64 ty] w fun e w' => e = .returned (.bool (knownB ty)) ∧ w' = w := by
  by_cases h1 : 0 < ty
  · by_cases h2 : ty < 16
    · have a1 : decide (0 < ty) = true := decide_eq_true h1
      have a2 : decide (ty < 16) = true := decide_eq_true h2
      go_enter Tryz.func118, Tryz.ntmps118
      go_wp2
      go_ret
      exact ⟨by unfold knownB; rw [a1, a2]; rfl, rfl⟩
    · have a1 : decide (0 < ty) = true := decide_eq_true h1
      have a2 : decide (ty < 16) = false := decide_eq_false h2
      go_enter Tryz.func118, Tryz.ntmps118
      go_wp2
      go_ret
      exact ⟨by unfold knownB; rw [a1, a2]; rfl, rfl⟩
  · have a1 : decide (0 < ty) = false := decide_eq_false h1
    go_enter Tryz.func118, Tryz.ntmps118
    go_wp2
    go_ret
    exact ⟨by unfold knownB; rw [a1]; rfl, rfl⟩

theorem pof_any (ty : Int) (w : World) (env : ScEnv w) : Calls Tryz.prog 77 #[.int .i64 ty] w fun e w' => e = .returned (rowV (tyI ty)) ∧ Below w.heap.size w w' := by
  by_cases h : knownB ty = true
  · have HK := Lib.hid (fun w => pknown_any ty w)
    rw [h] at HK
    have h2 : 0 < ty ∧ ty < 16 := by unfold knownB at h; simpa using h
    have hi : tyI ty = ty.toNat := by unfold tyI; rw [if_pos h2]
    rw [hi]
    obtain ⟨k, hk⟩ : ∃ k, k = ty.toNat := ⟨_, rfl⟩
    obtain rfl : ty = (k : Int) := by omega
    have hk16 : k < 16 := by omega
    rw [← hk]
    have c0 := fun o => cell?_alloc_old o (env.c0 k hk16)
    have c1 := fun o => cell?_alloc_old o (env.c1 k hk16)
    have c2 := fun o => cell?_alloc_old o (env.c2 k hk16)
    have c3 := fun o => cell?_alloc_old o (env.c3 k hk16)
    clear hk hi h env
    go_enter Tryz.func77, Tryz.ntmps77
    go_wp2_with (go_at_call 118; refine (HK.out _).mono ?_; rintro e w' ⟨rfl, rfl⟩)
    refine bodyPost_ret (v := rowV k) ?_ rfl ⟨rfl, (Below.refl _ _).alloc (Nat.le_refl _) _⟩
    have hres : Tryz.f77.results = #[.cell 2 126] := by kernel_rfl
    simp only [results, hres, rowV]
    go_simp
  · have HK := Lib.hid (fun w => pknown_any ty w)
    have h := eq_false_of_ne_true h
    rw [h] at HK
    have hi : tyI ty = 0 := by unfold tyI; rw [if_neg (fun h2 => by unfold knownB at h; simp [h2.1, h2.2] at h)]
    rw [hi]
    have c0 := fun o => cell?_alloc_old o (env.c0 0 (by omega))
    have c1 := fun o => cell?_alloc_old o (env.c1 0 (by omega))
    have c2 := fun o => cell?_alloc_old o (env.c2 0 (by omega))
    have c3 := fun o => cell?_alloc_old o (env.c3 0 (by omega))
    simp only [Nat.zero_mul, Nat.zero_add] at c0 c1 c2 c3
    clear hi h env
    go_enter Tryz.func77, Tryz.ntmps77
    go_wp2_with (go_at_call 118; refine (HK.out _).mono ?_; rintro e w' ⟨rfl, rfl⟩)
    refine bodyPost_ret (v := rowV 0) ?_ rfl ⟨rfl, (Below.refl _ _).alloc (Nat.le_refl _) _⟩
    have hres : Tryz.f77.results = #[.cell 2 126] := by kernel_rfl
    simp only [results, hres, rowV]
    go_simp

def hasB (m k : Int) : Bool := bits BinOp.and IntKind.i64 m k != 0
theorem phas_any (i : Nat) (k : Int) (w : World) : Calls Tryz.prog 78 #[rowV i, .int .i64 k] w fun e w' => e = .returned (.bool (hasB (rowM i) k)) ∧ Below w.heap.size w w' := by
  unfold rowV hasB
  obtain ⟨m, hm⟩ : ∃ m, m = rowM i := ⟨_, rfl⟩
  obtain ⟨x, hx⟩ : ∃ x, x = rowX i := ⟨_, rfl⟩
  obtain ⟨a, ha⟩ : ∃ a, a = rowI i := ⟨_, rfl⟩
  obtain ⟨s, hs⟩ : ∃ s, s = strOf (rowW i) := ⟨_, rfl⟩
  rw [← hm, ← hx, ← ha, ← hs]
  clear hm hx ha hs
  obtain ⟨b, hb⟩ : ∃ b, b = bits BinOp.and IntKind.i64 m k := ⟨_, rfl⟩
  rw [← hb]
  by_cases h0 : b = 0
  · rw [h0] at hb ⊢
    have hb' := hb.symm
    clear hb
    go_enter Tryz.func78, Tryz.ntmps78
    go_wp2
    go_ret
    exact ⟨rfl, (Below.refl _ _).alloc (Nat.le_refl _) _⟩
  · have h1 : (b != 0) = true := by simpa using h0
    have h2 : (b == 0) = false := beq_false_of_ne h0
    have hb' := hb.symm
    clear hb
    go_enter Tryz.func78, Tryz.ntmps78
    go_wp2
    go_ret
    exact ⟨by rw [h1]; rfl, (Below.refl _ _).alloc (Nat.le_refl _) _⟩

theorem has_Number (ty : Int) : hasB (rowM (tyI ty)) 1 = numberT ty := by
  rcases ty_cases ty with rfl | rfl | rfl | rfl | rfl | rfl | rfl | rfl | rfl | rfl | rfl | rfl | rfl | rfl | rfl | h | h
  all_goals first | (decide +kernel) | (rw [out_number (by omega), show tyI ty = 0 by unfold tyI; rw [if_neg (by omega)]]; decide +kernel)
theorem pnumber_any (ty : Int) (w : World) (env : ScEnv w) : Calls Tryz.prog 35 #[.int .i64 ty] w fun e w' => e = .returned (.bool (numberT ty)) ∧ Below w.heap.size w w' := by
  have H1 := Lib.hid (pof_any ty w env)
  have H2 := Lib.hid (fun w => phas_any (tyI ty) 1 w)
  rw [has_Number] at H2
  clear env
  go_enter Tryz.func35, Tryz.ntmps35
  go_wp2_with (first
    | (go_at_call 77; refine H1.out.mono ?_; rintro e w1 ⟨rfl, hb1⟩)
    | (go_at_call 78; refine (H2.out _).mono ?_; rintro e w2 ⟨rfl, hb2⟩))
  go_ret
  exact ⟨rfl, hb1.trans (hb2.mono hb1.size)⟩

theorem row_wire (ty : Int) : rowI (tyI ty) = wireT ty := by
  rcases ty_cases ty with rfl | rfl | rfl | rfl | rfl | rfl | rfl | rfl | rfl | rfl | rfl | rfl | rfl | rfl | rfl | h | h
  all_goals first | rfl | (rw [out_wire (by omega), show tyI ty = 0 by unfold tyI; rw [if_neg (by omega)]]; rfl)
theorem pwire_any (ty : Int) (w : World) (env : ScEnv w) : Calls Tryz.prog 38 #[.int .i64 ty] w fun e w' => e = .returned (.int .i64 (wireT ty)) ∧ Below w.heap.size w w' := by
  have H1 := Lib.hid (pof_any ty w env)
  unfold rowV at H1
  rw [row_wire] at H1
  have hfi : ∀ (a b c d : Value) (w : World), (Instr.field 126 (.agg #[a, b, c, d]) 1).run Tryz.prog w = .ok b w := fun a b c d w => by kernel_rfl
  clear env
  go_enter Tryz.func38, Tryz.ntmps38
  go_wp2_with (go_at_call 77; refine H1.out.mono ?_; rintro e w1 ⟨rfl, hb1⟩)
  go_ret
  exact ⟨rfl, hb1⟩

end Go.Proofs.YtpfdnggacpehdaaGreatDoor

/- The program's From and To of numbers. Conditions: ScEnv; those that each theorem names. -/
namespace Go.Proofs.YtpfdnggacpehdaaGreatDoor
open Go.RowKit
set_option linter.unusedVariables false
set_option maxRecDepth 100000

theorem plow_any (n : Nat) (w : World) (h : n < 18446744073709551616) :
    Calls Tryz.prog 84 #[.int .u64 (n : Int)] w fun e w' => e = .returned (.int .u64 ((n % 4294967296 : Nat) : Int)) ∧ w = w' := by
  have HL := Lib.hid (fun w => low_any (wrap64 (n : Int)) w (wrap64_ge _) (wrap64_lt _))
  obtain ⟨m, hm⟩ : ∃ m : Nat, m = (wrap64 (n : Int) % 4294967296).toNat := ⟨_, rfl⟩
  have hm2 : m < 4294967296 := by omega
  have HE : Hid (((n % 4294967296 : Nat) : Int) = (m : Int)) := by show _ = _; rw [hm]; unfold wrap64; omega
  rw [← hm] at HL
  rw [HE.out]
  clear hm HE
  go_enter Tryz.func84, Tryz.ntmps84
  go_wp2_with (go_at_call 127; refine (HL.out _).mono ?_; rintro e w' ⟨rfl, rfl⟩)
  go_ret
  exact ⟨rfl, rfl⟩
set_option maxHeartbeats 4000000 in
theorem pnfrom_any (ty : Int) (n : Nat) (w : World) (env : ScEnv w) (ht : Int64 ty) (hn : n < 18446744073709551616) : Calls Tryz.prog 39 #[.int .i64 ty, .int .u64 (n : Int)] w fun e w' => e = .returned (.int .u64 (fromT ty n : Int)) ∧ Below w.heap.size w w' := by
  have HB := Lib.hid (Below.refl w.heap.size w)
  have HNU := Lib.hid (fun w' (hb : Below w.heap.size w w') => pnumber_any ty w' (env.rides hb))
  clear env
  rcases ty_cases ty with rfl | rfl | rfl | rfl | rfl | rfl | rfl | rfl | rfl | rfl | rfl | rfl | rfl | rfl | rfl | h | h
  · have HW := Lib.hid (fun w => wide_any n w hn)
    have HM : Hid ((fromT 1 n : Int) = IntKind.u64.wrap (wideI n)) := by
      show _ = _
      rw [fromT, if_pos (by omega), u64of_wrap]
    rw [HM.out]
    clear HM
    go_enter Tryz.func39, Tryz.ntmps39
    go_wp2_with (first | (go_at_call 86; refine (HW.out _).mono ?_; rintro e w1 ⟨rfl, rfl⟩))
    go_ret
    exact ⟨rfl, HB.out⟩
  · rw [show numberT 2 = true from rfl] at HNU
    have HM : Hid ((fromT 2 n : Int) = (n : Int)) := by
      show _ = _
      rw [fromT, if_neg (by omega), if_neg (by omega), if_neg (by omega), if_neg (by omega), if_neg (by omega), if_pos (by decide)]
    rw [HM.out]
    clear HM
    go_enter Tryz.func39, Tryz.ntmps39
    go_wp2_with (first | (go_at_call 35; refine (HNU.out _ HB.out).mono ?_; rintro e w1 ⟨rfl, hb⟩; replace HB := Lib.hid (HB.out.trans (hb.mono HB.out.size)); clear hb))
    go_ret
    exact ⟨rfl, HB.out⟩
  · obtain ⟨m, hm⟩ : ∃ m, m = n % 4294967296 := ⟨_, rfl⟩
    have hm2 : m < 4294967296 := by omega
    have HL := Lib.hid (fun w => plow_any n w hn)
    rw [← hm] at HL
    have HM : Hid ((fromT 3 n : Int) = (m : Int)) := by
      show _ = _
      rw [fromT, if_neg (by omega), if_pos (by omega), hm]
    rw [HM.out]
    clear HM
    clear hm
    go_enter Tryz.func39, Tryz.ntmps39
    go_wp2_with (first | (go_at_call 84; refine (HL.out _).mono ?_; rintro e w1 ⟨rfl, rfl⟩))
    go_ret
    exact ⟨rfl, HB.out⟩
  · rw [show numberT 4 = true from rfl] at HNU
    have HM : Hid ((fromT 4 n : Int) = (n : Int)) := by
      show _ = _
      rw [fromT, if_neg (by omega), if_neg (by omega), if_neg (by omega), if_neg (by omega), if_neg (by omega), if_pos (by decide)]
    rw [HM.out]
    clear HM
    go_enter Tryz.func39, Tryz.ntmps39
    go_wp2_with (first | (go_at_call 35; refine (HNU.out _ HB.out).mono ?_; rintro e w1 ⟨rfl, hb⟩; replace HB := Lib.hid (HB.out.trans (hb.mono HB.out.size)); clear hb))
    go_ret
    exact ⟨rfl, HB.out⟩
  · obtain ⟨m, hm⟩ : ∃ m, m = n % 4294967296 := ⟨_, rfl⟩
    have hm2 : m < 4294967296 := by omega
    have HL := Lib.hid (fun w => plow_any n w hn)
    rw [← hm] at HL
    have HZ := Lib.hid (fun w => zag_any m w (by omega))
    have HM : Hid ((fromT 5 n : Int) = IntKind.u64.wrap (zagI m)) := by
      show _ = _
      rw [fromT, if_neg (by omega), if_neg (by omega), if_pos (by omega), u64of_wrap, ← hm]
    rw [HM.out]
    clear HM
    clear hm
    go_enter Tryz.func39, Tryz.ntmps39
    go_wp2_with (first | (go_at_call 84; refine (HL.out _).mono ?_; rintro e w1 ⟨rfl, rfl⟩) | (go_at_call 85; refine (HZ.out _).mono ?_; rintro e w1 ⟨rfl, rfl⟩))
    go_ret
    exact ⟨rfl, HB.out⟩
  · have HZ := Lib.hid (fun w => zag_any n w hn)
    have HM : Hid ((fromT 6 n : Int) = IntKind.u64.wrap (zagI n)) := by
      show _ = _
      rw [fromT, if_neg (by omega), if_neg (by omega), if_neg (by omega), if_pos (by omega), u64of_wrap]
    rw [HM.out]
    clear HM
    go_enter Tryz.func39, Tryz.ntmps39
    go_wp2_with (first | (go_at_call 85; refine (HZ.out _).mono ?_; rintro e w1 ⟨rfl, rfl⟩))
    go_ret
    exact ⟨rfl, HB.out⟩
  · have HM : Hid ((fromT 7 n : Int) = (min n 1 : Nat)) := by
      show _ = _
      rw [fromT, if_neg (by omega), if_neg (by omega), if_neg (by omega), if_neg (by omega), if_pos (by omega)]
      split <;> omega
    rw [HM.out]
    clear HM
    go_enter Tryz.func39, Tryz.ntmps39
    go_wp2
    all_goals go_ret
    all_goals exact ⟨ret_int' (by omega), HB.out⟩
  · obtain ⟨m, hm⟩ : ∃ m, m = n % 4294967296 := ⟨_, rfl⟩
    have hm2 : m < 4294967296 := by omega
    have HL := Lib.hid (fun w => plow_any n w hn)
    rw [← hm] at HL
    have HM : Hid ((fromT 8 n : Int) = (m : Int)) := by
      show _ = _
      rw [fromT, if_neg (by omega), if_pos (by omega), hm]
    rw [HM.out]
    clear HM
    clear hm
    go_enter Tryz.func39, Tryz.ntmps39
    go_wp2_with (first | (go_at_call 84; refine (HL.out _).mono ?_; rintro e w1 ⟨rfl, rfl⟩))
    go_ret
    exact ⟨rfl, HB.out⟩
  · rw [show numberT 9 = true from rfl] at HNU
    have HM : Hid ((fromT 9 n : Int) = (n : Int)) := by
      show _ = _
      rw [fromT, if_neg (by omega), if_neg (by omega), if_neg (by omega), if_neg (by omega), if_neg (by omega), if_pos (by decide)]
    rw [HM.out]
    clear HM
    go_enter Tryz.func39, Tryz.ntmps39
    go_wp2_with (first | (go_at_call 35; refine (HNU.out _ HB.out).mono ?_; rintro e w1 ⟨rfl, hb⟩; replace HB := Lib.hid (HB.out.trans (hb.mono HB.out.size)); clear hb))
    go_ret
    exact ⟨rfl, HB.out⟩
  · have HW := Lib.hid (fun w => wide_any n w hn)
    have HM : Hid ((fromT 10 n : Int) = IntKind.u64.wrap (wideI n)) := by
      show _ = _
      rw [fromT, if_pos (by omega), u64of_wrap]
    rw [HM.out]
    clear HM
    go_enter Tryz.func39, Tryz.ntmps39
    go_wp2_with (first | (go_at_call 86; refine (HW.out _).mono ?_; rintro e w1 ⟨rfl, rfl⟩))
    go_ret
    exact ⟨rfl, HB.out⟩
  · rw [show numberT 11 = true from rfl] at HNU
    have HM : Hid ((fromT 11 n : Int) = (n : Int)) := by
      show _ = _
      rw [fromT, if_neg (by omega), if_neg (by omega), if_neg (by omega), if_neg (by omega), if_neg (by omega), if_pos (by decide)]
    rw [HM.out]
    clear HM
    go_enter Tryz.func39, Tryz.ntmps39
    go_wp2_with (first | (go_at_call 35; refine (HNU.out _ HB.out).mono ?_; rintro e w1 ⟨rfl, hb⟩; replace HB := Lib.hid (HB.out.trans (hb.mono HB.out.size)); clear hb))
    go_ret
    exact ⟨rfl, HB.out⟩
  · rw [show numberT 12 = false from rfl] at HNU
    have HM : Hid ((fromT 12 n : Int) = 0) := by
      show _ = _
      rw [fromT, if_neg (by omega), if_neg (by omega), if_neg (by omega), if_neg (by omega), if_neg (by omega), if_neg (by decide)]
      rfl
    rw [HM.out]
    clear HM
    go_enter Tryz.func39, Tryz.ntmps39
    go_wp2_with (first | (go_at_call 35; refine (HNU.out _ HB.out).mono ?_; rintro e w1 ⟨rfl, hb⟩; replace HB := Lib.hid (HB.out.trans (hb.mono HB.out.size)); clear hb))
    go_ret
    exact ⟨rfl, HB.out⟩
  · rw [show numberT 13 = false from rfl] at HNU
    have HM : Hid ((fromT 13 n : Int) = 0) := by
      show _ = _
      rw [fromT, if_neg (by omega), if_neg (by omega), if_neg (by omega), if_neg (by omega), if_neg (by omega), if_neg (by decide)]
      rfl
    rw [HM.out]
    clear HM
    go_enter Tryz.func39, Tryz.ntmps39
    go_wp2_with (first | (go_at_call 35; refine (HNU.out _ HB.out).mono ?_; rintro e w1 ⟨rfl, hb⟩; replace HB := Lib.hid (HB.out.trans (hb.mono HB.out.size)); clear hb))
    go_ret
    exact ⟨rfl, HB.out⟩
  · have HW := Lib.hid (fun w => wide_any n w hn)
    have HM : Hid ((fromT 14 n : Int) = IntKind.u64.wrap (wideI n)) := by
      show _ = _
      rw [fromT, if_pos (by omega), u64of_wrap]
    rw [HM.out]
    clear HM
    go_enter Tryz.func39, Tryz.ntmps39
    go_wp2_with (first | (go_at_call 86; refine (HW.out _).mono ?_; rintro e w1 ⟨rfl, rfl⟩))
    go_ret
    exact ⟨rfl, HB.out⟩
  · rw [show numberT 15 = false from rfl] at HNU
    have HM : Hid ((fromT 15 n : Int) = 0) := by
      show _ = _
      rw [fromT, if_neg (by omega), if_neg (by omega), if_neg (by omega), if_neg (by omega), if_neg (by omega), if_neg (by decide)]
      rfl
    rw [HM.out]
    clear HM
    go_enter Tryz.func39, Tryz.ntmps39
    go_wp2_with (first | (go_at_call 35; refine (HNU.out _ HB.out).mono ?_; rintro e w1 ⟨rfl, hb⟩; replace HB := Lib.hid (HB.out.trans (hb.mono HB.out.size)); clear hb))
    go_ret
    exact ⟨rfl, HB.out⟩
  · rw [out_from _ (by omega)]
    have n1 : ¬ ty = 1 := by omega
    have e1 : (ty == 1) = false := beq_false_of_ne n1
    have n2 : ¬ ty = 2 := by omega
    have e2 : (ty == 2) = false := beq_false_of_ne n2
    have n3 : ¬ ty = 3 := by omega
    have e3 : (ty == 3) = false := beq_false_of_ne n3
    have n4 : ¬ ty = 4 := by omega
    have e4 : (ty == 4) = false := beq_false_of_ne n4
    have n5 : ¬ ty = 5 := by omega
    have e5 : (ty == 5) = false := beq_false_of_ne n5
    have n6 : ¬ ty = 6 := by omega
    have e6 : (ty == 6) = false := beq_false_of_ne n6
    have n7 : ¬ ty = 7 := by omega
    have e7 : (ty == 7) = false := beq_false_of_ne n7
    have n8 : ¬ ty = 8 := by omega
    have e8 : (ty == 8) = false := beq_false_of_ne n8
    have n9 : ¬ ty = 9 := by omega
    have e9 : (ty == 9) = false := beq_false_of_ne n9
    have n10 : ¬ ty = 10 := by omega
    have e10 : (ty == 10) = false := beq_false_of_ne n10
    have n11 : ¬ ty = 11 := by omega
    have e11 : (ty == 11) = false := beq_false_of_ne n11
    have n12 : ¬ ty = 12 := by omega
    have e12 : (ty == 12) = false := beq_false_of_ne n12
    have n13 : ¬ ty = 13 := by omega
    have e13 : (ty == 13) = false := beq_false_of_ne n13
    have n14 : ¬ ty = 14 := by omega
    have e14 : (ty == 14) = false := beq_false_of_ne n14
    have n15 : ¬ ty = 15 := by omega
    have e15 : (ty == 15) = false := beq_false_of_ne n15
    have a1 : decide (1 ≤ ty) = false := decide_eq_false (by omega)
    have b1 : decide (ty ≤ 1) = true := decide_eq_true (by omega)
    have c1 : decide (ty < 1) = true := decide_eq_true (by omega)
    have d1 : decide (1 < ty) = false := decide_eq_false (by omega)
    have a6 : decide (6 ≤ ty) = false := decide_eq_false (by omega)
    have b6 : decide (ty ≤ 6) = true := decide_eq_true (by omega)
    have c6 : decide (ty < 6) = true := decide_eq_true (by omega)
    have d6 : decide (6 < ty) = false := decide_eq_false (by omega)
    have a7 : decide (7 ≤ ty) = false := decide_eq_false (by omega)
    have b7 : decide (ty ≤ 7) = true := decide_eq_true (by omega)
    have c7 : decide (ty < 7) = true := decide_eq_true (by omega)
    have d7 : decide (7 < ty) = false := decide_eq_false (by omega)
    have a8 : decide (8 ≤ ty) = false := decide_eq_false (by omega)
    have b8 : decide (ty ≤ 8) = true := decide_eq_true (by omega)
    have c8 : decide (ty < 8) = true := decide_eq_true (by omega)
    have d8 : decide (8 < ty) = false := decide_eq_false (by omega)
    have a11 : decide (11 ≤ ty) = false := decide_eq_false (by omega)
    have b11 : decide (ty ≤ 11) = true := decide_eq_true (by omega)
    have c11 : decide (ty < 11) = true := decide_eq_true (by omega)
    have d11 : decide (11 < ty) = false := decide_eq_false (by omega)
    have a13 : decide (13 ≤ ty) = false := decide_eq_false (by omega)
    have b13 : decide (ty ≤ 13) = true := decide_eq_true (by omega)
    have c13 : decide (ty < 13) = true := decide_eq_true (by omega)
    have d13 : decide (13 < ty) = false := decide_eq_false (by omega)
    have a15 : decide (15 ≤ ty) = false := decide_eq_false (by omega)
    have b15 : decide (ty ≤ 15) = true := decide_eq_true (by omega)
    have c15 : decide (ty < 15) = true := decide_eq_true (by omega)
    have d15 : decide (15 < ty) = false := decide_eq_false (by omega)
    rw [out_number (by omega)] at HNU
    go_enter Tryz.func39, Tryz.ntmps39
    go_wp2_with (first | (go_at_call 35; refine (HNU.out _ HB.out).mono ?_; rintro e w1 ⟨rfl, hb⟩; replace HB := Lib.hid (HB.out.trans (hb.mono HB.out.size)); clear hb))
    go_ret
    exact ⟨rfl, HB.out⟩
  · rw [out_from _ (by omega)]
    have n1 : ¬ ty = 1 := by omega
    have e1 : (ty == 1) = false := beq_false_of_ne n1
    have n2 : ¬ ty = 2 := by omega
    have e2 : (ty == 2) = false := beq_false_of_ne n2
    have n3 : ¬ ty = 3 := by omega
    have e3 : (ty == 3) = false := beq_false_of_ne n3
    have n4 : ¬ ty = 4 := by omega
    have e4 : (ty == 4) = false := beq_false_of_ne n4
    have n5 : ¬ ty = 5 := by omega
    have e5 : (ty == 5) = false := beq_false_of_ne n5
    have n6 : ¬ ty = 6 := by omega
    have e6 : (ty == 6) = false := beq_false_of_ne n6
    have n7 : ¬ ty = 7 := by omega
    have e7 : (ty == 7) = false := beq_false_of_ne n7
    have n8 : ¬ ty = 8 := by omega
    have e8 : (ty == 8) = false := beq_false_of_ne n8
    have n9 : ¬ ty = 9 := by omega
    have e9 : (ty == 9) = false := beq_false_of_ne n9
    have n10 : ¬ ty = 10 := by omega
    have e10 : (ty == 10) = false := beq_false_of_ne n10
    have n11 : ¬ ty = 11 := by omega
    have e11 : (ty == 11) = false := beq_false_of_ne n11
    have n12 : ¬ ty = 12 := by omega
    have e12 : (ty == 12) = false := beq_false_of_ne n12
    have n13 : ¬ ty = 13 := by omega
    have e13 : (ty == 13) = false := beq_false_of_ne n13
    have n14 : ¬ ty = 14 := by omega
    have e14 : (ty == 14) = false := beq_false_of_ne n14
    have n15 : ¬ ty = 15 := by omega
    have e15 : (ty == 15) = false := beq_false_of_ne n15
    have a1 : decide (1 ≤ ty) = true := decide_eq_true (by omega)
    have b1 : decide (ty ≤ 1) = false := decide_eq_false (by omega)
    have c1 : decide (ty < 1) = false := decide_eq_false (by omega)
    have d1 : decide (1 < ty) = true := decide_eq_true (by omega)
    have a6 : decide (6 ≤ ty) = true := decide_eq_true (by omega)
    have b6 : decide (ty ≤ 6) = false := decide_eq_false (by omega)
    have c6 : decide (ty < 6) = false := decide_eq_false (by omega)
    have d6 : decide (6 < ty) = true := decide_eq_true (by omega)
    have a7 : decide (7 ≤ ty) = true := decide_eq_true (by omega)
    have b7 : decide (ty ≤ 7) = false := decide_eq_false (by omega)
    have c7 : decide (ty < 7) = false := decide_eq_false (by omega)
    have d7 : decide (7 < ty) = true := decide_eq_true (by omega)
    have a8 : decide (8 ≤ ty) = true := decide_eq_true (by omega)
    have b8 : decide (ty ≤ 8) = false := decide_eq_false (by omega)
    have c8 : decide (ty < 8) = false := decide_eq_false (by omega)
    have d8 : decide (8 < ty) = true := decide_eq_true (by omega)
    have a11 : decide (11 ≤ ty) = true := decide_eq_true (by omega)
    have b11 : decide (ty ≤ 11) = false := decide_eq_false (by omega)
    have c11 : decide (ty < 11) = false := decide_eq_false (by omega)
    have d11 : decide (11 < ty) = true := decide_eq_true (by omega)
    have a13 : decide (13 ≤ ty) = true := decide_eq_true (by omega)
    have b13 : decide (ty ≤ 13) = false := decide_eq_false (by omega)
    have c13 : decide (ty < 13) = false := decide_eq_false (by omega)
    have d13 : decide (13 < ty) = true := decide_eq_true (by omega)
    have a15 : decide (15 ≤ ty) = true := decide_eq_true (by omega)
    have b15 : decide (ty ≤ 15) = false := decide_eq_false (by omega)
    have c15 : decide (ty < 15) = false := decide_eq_false (by omega)
    have d15 : decide (15 < ty) = true := decide_eq_true (by omega)
    rw [out_number (by omega)] at HNU
    go_enter Tryz.func39, Tryz.ntmps39
    go_wp2_with (first | (go_at_call 35; refine (HNU.out _ HB.out).mono ?_; rintro e w1 ⟨rfl, hb⟩; replace HB := Lib.hid (HB.out.trans (hb.mono HB.out.size)); clear hb))
    go_ret
    exact ⟨rfl, HB.out⟩
end Go.Proofs.YtpfdnggacpehdaaGreatDoor
