/- Several texts in one: PdD. What each proves, and its conditions, stands at its own head. -/
import Derived.Test.YtpfdnggacpehdaaGreatDoorPkDU24
import Derived.Test.YtpfdnggacpehdaaGreatDoorPkDU19
import Derived.Test.YtpfdnggacpehdaaGreatDoorPkDU13
import Derived.Test.YtpfdnggacpehdaaGreatDoorPkDU15
import Derived.Test.YtpfdnggacpehdaaGreatDoorPkDU23
/- The landed layer 22: a message's field of a number, whether it may have a wire type, whether a value is 0 or empty. Conditions: those that each theorem names. -/
namespace Go.Proofs.YtpfdnggacpehdaaGreatDoor
open Go.RowKit
set_option linter.unusedVariables false
set_option maxRecDepth 100000

def zFld : Array Value := #[.string ⟨#[]⟩, .int .i64 0, .int .i64 0, .string ⟨#[]⟩, .bool false, .bool false, .string ⟨#[]⟩]
set_option maxHeartbeats 8000000 in
theorem dnumbered_any {S T : Nat → Prop} (w : World) {A1 A2 : Option Addr} {nf ca nb cb : Nat} {x : Ms} (sn : ByteArray) (hl : Lst 7 S fdR w A1 ca x.fields) (hl2 : Lst 1 T inR w A2 cb x.barred) (hnf : nf = x.fields.length) (hnb : nb = x.barred.length) (t : Int) :
    Calls Tryz.prog 67 #[.agg #[.string sn, .slice A1 nf ca, .slice A2 nb cb], .int .i64 t] w fun e w' => (e = .returned (.tuple #[match vFld x t with | some f => fdV f | none => .agg zFld, .bool (vFld x t).isSome])) ∧ Below w.heap.size w w' := by
  obtain ⟨w2, hw2⟩ : ∃ w2, w2 = (w.alloc (.cells #[.string sn, .slice A1 nf ca, .slice A2 nb cb] 59)).alloc (.cells zFld 43) := ⟨_, rfl⟩
  obtain ⟨k1, k2, hb⟩ := box_two w (.cells #[.string sn, .slice A1 nf ca, .slice A2 nb cb] 59) (.cells zFld 43)
  rw [heap_alloc_new] at k1 k2
  rw [← hw2] at k1 k2 hb
  have q1 := hl.l_le
  have q2 := hl.l_max
  rw [← hnf] at q1
  unfold maxLen at q2
  have HI := Lib.hid (fxnumber_any w2 sn (lst_keep (S' := S) hl fdR_keep (fun _ h => h) (bel_keep hb)) (lst_keep (S' := T) hl2 inR_keep (fun _ h => h) (bel_keep hb)) hnf hnb t)
  have HRS : Hid (Tryz.f67.results = #[.cell 4 43, .tmp 5]) := Lib.hid (by kernel_rfl)
  have r0 := obj_cell k1 0
  have r1 := obj_cell k1 1
  have r2 := obj_cell k1 2
  have HB := Lib.hid hb
  have HW2 := Lib.hid hw2
  have HK2 := Lib.hid k2
  have HK1 := Lib.hid k1
  unfold zFld at *
  rw [hw2] at r0 r1 r2
  rcases fld_way x t with ⟨e1, e2⟩ | ⟨i, f, e1, e2, e3⟩
  · rw [e1] at HI
    rw [e2]
    clear hl hl2 hnf hnb k1 k2 hb hw2 e1 e2
    go_enter Tryz.func67, Tryz.ntmps67
    go_wp2_with (go_at_call 107; (with_reducible rw [← HW2.out]); refine HI.out.mono ?_; rintro e w3 ⟨rfl, hb⟩; have hbx := (hb.block _ (lt_of_block HK2.out)).trans HK2.out; have q0 := obj_free hbx 0; have q1 := obj_free hbx 1; have q2 := obj_free hbx 2; have q3 := obj_free hbx 3; have q4 := obj_free hbx 4; have q5 := obj_free hbx 5; have q6 := obj_free hbx 6; have d0 := obj_cell hbx 0; have d1 := obj_cell hbx 1; have d2 := obj_cell hbx 2; have d3 := obj_cell hbx 3; have d4 := obj_cell hbx 4; have d5 := obj_cell hbx 5; have d6 := obj_cell hbx 6; have HB3 := Lib.hid (HB.out.trans (hb.mono HB.out.size)); clear hb hbx)
    refine bodyPost_ret (v := .tuple #[.agg #[.string ⟨#[]⟩, .int .i64 0, .int .i64 0, .string ⟨#[]⟩, .bool false, .bool false, .string ⟨#[]⟩], .bool false]) ?_ rfl ⟨rfl, ((((((HB3.out.setCell (Nat.le_succ _) _).setCell (Nat.le_succ _) _).setCell (Nat.le_succ _) _).setCell (Nat.le_succ _) _).setCell (Nat.le_succ _) _).setCell (Nat.le_succ _) _).setCell (Nat.le_succ _) _⟩
    simp only [results, HRS.out]
    go_simp
  · obtain ⟨gf, of, rfl, _, hcf⟩ := fd_at hl e2
    have hif : i < nf := by have := (List.getElem?_eq_some_iff.mp e2).1; omega
    have g1 : decide ((i : Int) < 0) = false := decide_eq_false (by omega)
    rw [e1] at HI
    rw [e3]
    have HC := Lib.hid hcf
    dsimp only [Option.isSome]
    unfold fdV
    generalize strOf f.name = s0 at *
    generalize strOf f.ref = s3 at *
    generalize strOf f.one = s6 at *
    obtain ⟨name, num, ty, ref, rep, loose, one⟩ := f
    dsimp only at HC ⊢
    clear hl hl2 hnf hnb k1 k2 hb hw2 e1 e2 e3 hcf
    go_enter Tryz.func67, Tryz.ntmps67
    go_wp2_with (go_at_call 107; (with_reducible rw [← HW2.out]); refine HI.out.mono ?_; rintro e w3 ⟨rfl, hb⟩; have hbx := (hb.block _ (lt_of_block HK2.out)).trans HK2.out; have hby := (hb.block _ (lt_of_block HK1.out)).trans HK1.out; have q0 := obj_free hbx 0; have q1' := obj_free hbx 1; have q2' := obj_free hbx 2; have q3 := obj_free hbx 3; have q4 := obj_free hbx 4; have q5 := obj_free hbx 5; have q6 := obj_free hbx 6; have d0 := obj_cell hbx 0; have d1 := obj_cell hbx 1; have d2 := obj_cell hbx 2; have d3 := obj_cell hbx 3; have d4 := obj_cell hbx 4; have d5 := obj_cell hbx 5; have d6 := obj_cell hbx 6; have u0 := obj_cell hby 0; have u1 := obj_cell hby 1; have u2 := obj_cell hby 2; have HB3 := Lib.hid (HB.out.trans (hb.mono HB.out.size)); obtain ⟨c0, c1, c2, c3, c4, c5, c6⟩ := HC.out _ HB3.out; clear hb hbx hby)
    refine bodyPost_ret (v := .tuple #[.agg #[.string s0, .int .i64 num, .int .i64 ty, .string s3, .bool rep, .bool loose, .string s6], .bool true]) ?_ rfl ⟨rfl, ((((((HB3.out.setCell (Nat.le_succ _) _).setCell (Nat.le_succ _) _).setCell (Nat.le_succ _) _).setCell (Nat.le_succ _) _).setCell (Nat.le_succ _) _).setCell (Nat.le_succ _) _).setCell (Nat.le_succ _) _⟩
    simp only [results, HRS.out]
    go_simp
/-- Whether a field may have a wire type. -/
def mayD (f : Fd) (wire : Int) : Bool := (f.rep && (numberT f.ty && decide (wire = 2))) || decide (wire = wireT f.ty)
set_option maxHeartbeats 8000000 in
theorem dmay_any (f : Fd) (wire : Int) (w : World) (env : ScEnv w) :
    Calls Tryz.prog 68 #[fdV f, .int .i64 wire] w fun e w' => e = .returned (.bool (mayD f wire)) ∧ Below w.heap.size w w' := by
  have HO : Hid (mayD f wire = ((f.rep && (numberT f.ty && decide (wire = 2))) || decide (wire = wireT f.ty))) := Lib.hid rfl
  unfold fdV
  have HB0 := Lib.hid (bx_start w #[.string (strOf f.name), .int .i64 f.num, .int .i64 f.ty, .string (strOf f.ref), .bool f.rep, .bool f.loose, .string (strOf f.one)] 43)
  obtain ⟨name, num, ty, ref, rep, loose, one⟩ := f
  dsimp only at HO HB0 ⊢
  generalize strOf name = s0 at *
  generalize strOf ref = s3 at *
  generalize strOf one = s6 at *
  have HN := Lib.hid (fun w' (hb : Below w.heap.size w w') => pnumber_any ty w' (env.rides hb))
  have HW := Lib.hid (fun w' (hb : Below w.heap.size w w') => pwire_any ty w' (env.rides hb))
  obtain ⟨nu, hnu⟩ : ∃ z, z = numberT ty := ⟨_, rfl⟩
  obtain ⟨wi, hwi⟩ : ∃ z, z = wireT ty := ⟨_, rfl⟩
  rw [← hnu] at HO HN
  rw [← hwi] at HO HW
  have r2 := obj_cell HB0.out.b_blk 2
  have r4 := obj_cell HB0.out.b_blk 4
  clear env hnu hwi
  have p2 : (wire = 2 ∧ (wire == 2) = true ∧ decide (wire = 2) = true) ∨ (¬ wire = 2 ∧ (wire == 2) = false ∧ decide (wire = 2) = false) := by
    by_cases h : wire = 2
    · exact .inl ⟨h, by rw [h]; rfl, decide_eq_true h⟩
    · exact .inr ⟨h, beq_false_of_ne h, decide_eq_false h⟩
  have p3 : (wire == wi) = decide (wire = wi) := by
    by_cases h : wire = wi
    · rw [h]; simp
    · rw [decide_eq_false h]; exact beq_false_of_ne h
  obtain ⟨dw, hdw⟩ : ∃ z, z = decide (wire = wi) := ⟨_, rfl⟩
  rw [← hdw] at p3 HO
  clear hdw
  cases rep <;> cases nu
  all_goals rcases p2 with ⟨e2, g2, g3⟩ | ⟨e2, g2, g3⟩
  all_goals
    rw [g3] at HO
    have E2 := Lib.hid e2
    clear e2 g3
    go_enter Tryz.func68, Tryz.ntmps68
    go_wp2_with (first
      | (go_at_call 35; refine (HN.out _ HB0.out.b_bel).mono ?_; rintro e w3 ⟨rfl, hb⟩; have HB3 := Lib.hid (bx_step HB0.out hb); have s2 := obj_cell HB3.out.b_blk 2; have s4 := obj_cell HB3.out.b_blk 4; clear hb)
      | (go_at_call 38; first
          | (refine (HW.out _ HB3.out.b_bel).mono ?_; rintro e w4 ⟨rfl, hb⟩; have HB4 := Lib.hid (bx_step HB3.out hb); clear hb)
          | (refine (HW.out _ HB0.out.b_bel).mono ?_; rintro e w4 ⟨rfl, hb⟩; have HB4 := Lib.hid (bx_step HB0.out hb); clear hb)))
    go_ret
    exact ⟨by rw [HO.out]; rfl, (by first | exact HB4.out.b_bel | exact HB3.out.b_bel)⟩
/-- Whether a value is 0, or empty. -/
def zerD (n : Nat) (s : List UInt8) : Bool := decide (n = 0) && decide (s = [])
theorem dzero_any (vn : Nat) (vs : List UInt8) (A : Option Addr) (n c : Nat) (w : World) :
    Calls Tryz.prog 114 #[.agg #[.int .u64 (vn : Int), .string (strOf vs), .slice A n c]] w fun e w' => e = .returned (.bool (zerD vn vs)) ∧ Below w.heap.size w w' := by
  have HO : Hid (zerD vn vs = (decide (vn = 0) && decide (vs = []))) := Lib.hid rfl
  have HB : Hid (∀ o, Below w.heap.size w (w.alloc o)) := Lib.hid (fun o => (Below.refl _ w).alloc (Nat.le_refl _) o)
  have hways := txt_ways vs
  obtain ⟨so, hso⟩ : ∃ so, so = strOf vs := ⟨_, rfl⟩
  obtain ⟨oe, hoe⟩ : ∃ oe, oe = decide (vs = []) := ⟨_, rfl⟩
  rw [← hoe] at HO hways
  rw [← hso] at hways ⊢
  clear hoe hso
  by_cases hn : vn = 0
  · subst hn
    rcases hways with ⟨rfl, o3, o2⟩ | ⟨rfl, o3, o2⟩
    all_goals
      go_enter Tryz.func114, Tryz.ntmps114
      go_wp2
      go_ret
      exact ⟨by rw [HO.out]; rfl, HB.out _⟩
  · have en : ((vn : Int) == 0) = false := beq_false_of_ne (by omega)
    have en2 : ¬ (vn : Int) = 0 := by omega
    rw [decide_eq_false hn] at HO
    clear hn hways
    go_enter Tryz.func114, Tryz.ntmps114
    go_wp2
    go_ret
    exact ⟨by rw [HO.out]; rfl, HB.out _⟩
end Go.Proofs.YtpfdnggacpehdaaGreatDoor
