/- Several texts in one: PnF. What each proves, and its conditions, stands at its own head. -/
import Derived.Test.YtcjjphioeneiiaaGreatDoorPkSB33
import Derived.Test.YtcjjphioeneiiaaGreatDoorPkSB12
import Derived.Test.YtcjjphioeneiiaaGreatDoorPkSB28
import Derived.Test.YtcjjphioeneiiaaGreatDoorPkSB26
/- The landed layer 18: a field's type. Conditions: ScEnv. -/
namespace Go.Proofs.YtcjjphioeneiiaaGreatDoor
open Go.RowKit
set_option linter.unusedVariables false
set_option maxRecDepth 100000

def fdb (nm : ByteArray) (num ty : Int) (ref : ByteArray) (rep loose : Bool) (one : ByteArray) : Array Value := #[.string nm, .int .i64 num, .int .i64 ty, .string ref, .bool rep, .bool loose, .string one]
theorem fdb_cells {w : World} {b : Nat} {nm ref one : ByteArray} {num ty : Int} {rep loose : Bool} {t : TypeId} (h : w.heap[b]? = some (.cells (fdb nm num ty ref rep loose one) t (0, 0))) : w.cell? ⟨b, 0, none⟩ = some (.string nm) ∧ w.cell? ⟨b, 1, none⟩ = some (.int .i64 num) ∧ w.cell? ⟨b, 2, none⟩ = some (.int .i64 ty) ∧ w.cell? ⟨b, 3, none⟩ = some (.string ref) ∧ w.cell? ⟨b, 4, none⟩ = some (.bool rep) ∧ w.cell? ⟨b, 5, none⟩ = some (.bool loose) ∧ w.cell? ⟨b, 6, none⟩ = some (.string one) :=
 ⟨obj_cell h 0, obj_cell h 1, obj_cell h 2, obj_cell h 3, obj_cell h 4, obj_cell h 5, obj_cell h 6⟩
/-- The three boxes of the call. -/
structure TyBx (w wr : World) (A A2 : Option Addr) (n cap n2 cap2 : Nat) (cs : Array Value) : Prop where
 tb_bel : Below w.heap.size w wr
 tb_s : wr.heap[w.heap.size]? = some (.cells #[.slice A n cap, .slice A2 n2 cap2] 26 (0, 0))
 tb_f : wr.heap[w.heap.size + 1]? = some (.cells cs 70 (0, 0))
 tb_r : wr.heap[w.heap.size + 2]? = some (.cells (fdb ⟨#[]⟩ 0 0 ⟨#[]⟩ false false ⟨#[]⟩) 70 (0, 0))
theorem tb_step {w wr w' : World} {A A2 : Option Addr} {n cap n2 cap2 : Nat} {cs : Array Value} (h : TyBx w wr A A2 n cap n2 cap2 cs) (hb : Below wr.heap.size wr w') : TyBx w w' A A2 n cap n2 cap2 cs :=
 ⟨h.tb_bel.trans (hb.mono h.tb_bel.size), (hb.block _ (lt_of_block h.tb_s)).trans h.tb_s, (hb.block _ (lt_of_block h.tb_f)).trans h.tb_f, (hb.block _ (lt_of_block h.tb_r)).trans h.tb_r⟩
theorem tb_start (w : World) (A A2 : Option Addr) (n cap n2 cap2 : Nat) (cs : Array Value) : TyBx w (((w.alloc (.cells #[.slice A n cap, .slice A2 n2 cap2] 26)).alloc (.cells cs 70)).alloc (.cells (fdb ⟨#[]⟩ 0 0 ⟨#[]⟩ false false ⟨#[]⟩) 70)) A A2 n cap n2 cap2 cs := by
 refine ⟨((box_up w _).trans ((box_up _ _).mono (box_up w _).size)).trans ((box_up _ _).mono ((box_up w _).trans ((box_up _ _).mono (box_up w _).size)).size), ?_, ?_, ?_⟩
 ·rw [Below.heap_alloc _ _ _ (by simp; omega), Below.heap_alloc _ _ _ (by simp)]; exact heap_alloc_new w _
 ·rw [Below.heap_alloc _ _ _ (by simp)]; have := heap_alloc_new (w.alloc (.cells #[.slice A n cap, .slice A2 n2 cap2] 26)) (.cells cs 70); rwa [World.size_alloc] at this
 ·have := heap_alloc_new ((w.alloc (.cells #[.slice A n cap, .slice A2 n2 cap2] 26)).alloc (.cells cs 70)) (.cells (fdb ⟨#[]⟩ 0 0 ⟨#[]⟩ false false ⟨#[]⟩) 70); rwa [World.size_alloc, World.size_alloc] at this
theorem tb_end {w wr : World} {A A2 : Option Addr} {n cap n2 cap2 : Nat} {cs : Array Value} (h : TyBx w wr A A2 n cap n2 cap2 cs) {b : Nat} (hb : w.heap.size ≤ b) (j : Nat) (u : Value) (W : World) (k : Below w.heap.size w W) : Below w.heap.size w (W.setCell ⟨b, j, none⟩ u) := k.setCell (by show w.heap.size ≤ b; exact hb) _
set_option maxHeartbeats 16000000 in
theorem ntyped_any {S : Nat → Nat → Prop} (w : World) (env : ScEnv w) {A A2 : Option Addr} {n cap n2 cap2 : Nat} {s : Sc} (h : ScAt S w A n cap A2 n2 cap2 s) (f : Fd) :
 Calls Tryz.prog 113 #[.agg #[.slice A n cap, .slice A2 n2 cap2], .agg #[.string (strOf f.name), .int .i64 f.num, .int .i64 f.ty, .string (strOf f.ref), .bool f.rep, .bool f.loose, .string (strOf f.one)]] w fun e w' => e = .returned (fdV (typedF s f)) ∧ Below w.heap.size w w' := by
 have HO := Lib.hid (fun u (hb : Below w.heap.size w u) => pof_word f.ref u (env.rides hb))
 have HF := Lib.hid (fun u (hb : Below w.heap.size w u) => fxenum_any u (scAt_bel h hb) f.ref)
 have HD : Hid (fdV (typedF s f) = .agg (fdb (strOf f.name) f.num (if ofT f.ref ≠ 0 then (ofT f.ref : Int) else if enumT s f.ref < 0 then 15 else 14) (if ofT f.ref ≠ 0 then ⟨#[]⟩ else strOf f.ref) f.rep f.loose (strOf f.one))) := Lib.hid (by unfold typedF fdV; split <;> rfl)
 have HB := Lib.hid (tb_start w A A2 n cap n2 cap2 (fdb (strOf f.name) f.num f.ty (strOf f.ref) f.rep f.loose (strOf f.one)))
 obtain ⟨r, hr⟩ : ∃ r, r = fdV (typedF s f) := ⟨_, rfl⟩
 rw [← hr] at HD ⊢
 obtain ⟨ty, hty⟩ : ∃ ty, ty = ofT f.ref := ⟨_, rfl⟩
 rw [← hty] at HD HO
 obtain ⟨z, hz⟩ : ∃ z, z = enumT s f.ref := ⟨_, rfl⟩
 rw [← hz] at HD HF
 obtain ⟨nm, num, t0, ref, rep, loose, one⟩ := f
 dsimp only at HD HO HF HB ⊢
 obtain ⟨sn, hsn⟩ : ∃ s, s = strOf nm := ⟨_, rfl⟩
 obtain ⟨sr, hsr⟩ : ∃ s, s = strOf ref := ⟨_, rfl⟩
 obtain ⟨so, hso⟩ : ∃ s, s = strOf one := ⟨_, rfl⟩
 rw [← hsn, ← hsr, ← hso] at HD HB ⊢
 rw [← hsr] at HO HF
 have r3 := (fdb_cells HB.out.tb_f).2.2.2.1
 clear h env hr hty hz hsn hsr hso
 have hw : (¬ ty = 0) ∨ (ty = 0 ∧ 0 ≤ z) ∨ (ty = 0 ∧ z < 0) := by omega
 rcases hw with h1 | ⟨rfl, h2⟩ | ⟨rfl, h2⟩
 all_goals
  first
   | (have g1 : ((ty : Int) != 0) = true := by rw [bne, beq_false_of_ne (by omega)]; rfl
      have g2 : ¬ (ty : Int) = 0 := by omega
      rw [if_pos h1, if_pos h1] at HD
      clear h1)
   | (have g1 : decide (z ≥ 0) = true := decide_eq_true h2
      rw [if_neg (fun h => h rfl), if_neg (Int.not_lt.mpr h2), if_neg (fun h => h rfl)] at HD)
   | (have g1 : decide (z ≥ 0) = false := decide_eq_false (by omega)
      rw [if_neg (fun h => h rfl), if_pos h2, if_neg (fun h => h rfl)] at HD)
  go_enter Tryz.func113, Tryz.ntmps113
  go_wp2_with (first
   | (go_at_call 188; refine (HO.out _ HB.out.tb_bel).mono ?_; rintro e w4 ⟨rfl, hb⟩
      replace HB := Lib.hid (tb_step HB.out hb)
      obtain ⟨c0, c1, c2, c3, c4, c5, c6⟩ := fdb_cells HB.out.tb_f
      have f2 := obj_free HB.out.tb_f 2
      have f3 := obj_free HB.out.tb_f 3
      have s0 := obj_cell HB.out.tb_s 0
      have s1 := obj_cell HB.out.tb_s 1
      obtain ⟨z0, z1, z2, z3, z4, z5, z6⟩ := fdb_cells HB.out.tb_r
      have y := obj_free HB.out.tb_r
      have y0 := y 0; have y1 := y 1; have y2 := y 2; have y3 := y 3; have y4 := y 4; have y5 := y 5; have y6 := y 6
      clear hb y)
   | (go_at_call 189; refine (HF.out _ HB.out.tb_bel).mono ?_; rintro e w5 ⟨rfl, hb⟩
      replace HB := Lib.hid (tb_step HB.out hb)
      clear c0 c1 c2 c3 c4 c5 c6 f2 f3 s0 s1 z0 z1 z2 z3 z4 z5 z6 y0 y1 y2 y3 y4 y5 y6
      obtain ⟨c0, c1, c2, c3, c4, c5, c6⟩ := fdb_cells HB.out.tb_f
      have f2 := obj_free HB.out.tb_f 2
      obtain ⟨z0, z1, z2, z3, z4, z5, z6⟩ := fdb_cells HB.out.tb_r
      have y := obj_free HB.out.tb_r
      have y0 := y 0; have y1 := y 1; have y2 := y 2; have y3 := y 3; have y4 := y 4; have y5 := y 5; have y6 := y 6
      clear hb y))
  refine bodyPost_ret (v := r) ?_ rfl ⟨rfl, ?_⟩
  ·rw [HD.out]
   have hres : Tryz.f113.results = #[.cell 4 70] := by kernel_rfl
   simp only [results, hres]
   go_simp
   rfl
  ·repeat' (first | with_reducible exact HB.out.tb_bel | refine tb_end HB.out (by omega) _ _ _ ?_)
end Go.Proofs.YtcjjphioeneiiaaGreatDoor
