/- Several texts in one: SxW. What each proves, and its conditions, stands at its own head. -/
import Derived.Test.YtpbhokmpbcmdcaaGreatDoorPkp33
import Derived.Test.YtpbhokmpbcmdcaaGreatDoorPkp29
import Derived.Test.YtpbhokmpbcmdcaaGreatDoorPkp11
/- The program's Copy of a schema; what is asked of Same and Copy. Conditions: those that each theorem names. -/
namespace Go.Proofs.YtpbhokmpbcmdcaaGreatDoor
open Go.RowKit
set_option linter.unusedVariables false
set_option maxRecDepth 100000

set_option maxHeartbeats 8000000 in
theorem scopy_any {S : Nat → Nat → Prop} (w : World) {A A2 : Option Addr} {n cap n2 cap2 : Nat} {s : Sc} (h : ScAt S w A n cap A2 n2 cap2 s) (hs : smallT s = true) :
    Calls Tryz.prog 12 #[.agg #[.slice A n cap, .slice A2 n2 cap2]] w fun e w' => ∃ B m cb B2 m2 cb2, e = .returned (.agg #[.slice B m cb, .slice B2 m2 cb2]) ∧ ScAt (fun _ g => w.heap.size ≤ g) w' B m cb B2 m2 cb2 s ∧ Below w.heap.size w w' := by
  obtain ⟨m1, m2, m3, m4⟩ := scAt_max h
  obtain ⟨z1, z2, z3, z4⟩ := small_sizes hs
  obtain ⟨y1, y2⟩ := small_names hs
  have HE := Lib.hid (fun u (hb : Below w.heap.size w u) => gac_en u (scAt_bel h hb).s_e h.s_ne (by have := h.s_ne; omega) (fun x hx => ⟨(y1 x hx).1, (y1 x hx).2, by have := z3 x hx; omega⟩))
  have HM := Lib.hid (fun u (hb : Below w.heap.size w u) => gac_ms u (scAt_bel h hb).s_m h.s_nm (by have := h.s_nm; omega) (fun x hx => ⟨(y2 x hx).1, (y2 x hx).2, by have := (z4 x hx).1; omega, by have := (z4 x hx).2; omega⟩))
  have HN := Lib.hid (And.intro h.s_ne h.s_nm)
  have HBX0 := Lib.hid (bx2_start w #[.slice A n cap, .slice A2 n2 cap2] #[.slice none 0 0, .slice none 0 0] 25 25)
  have HBX := Lib.hid (bx2_drew1 HBX0.out)
  have HSZ : Hid (((w.alloc (.cells #[.slice A n cap, .slice A2 n2 cap2] 25)).alloc (.cells #[.slice none 0 0, .slice none 0 0] 25)).drew.heap.size = w.heap.size + 1 + 1) := Lib.hid (by simp)
  have r0 := obj_cell (HBX0.out).b2_one 0
  have r1 := obj_cell (HBX0.out).b2_one 1
  have HK : Hid (∀ u : World, u.heap[w.heap.size]? = some (.cells #[.slice A n cap, .slice A2 n2 cap2] 25 (0, 0)) → u.cell? ⟨w.heap.size, 0, none⟩ = some (.slice A n cap) ∧ u.cell? ⟨w.heap.size, 1, none⟩ = some (.slice A2 n2 cap2)) := Lib.hid (fun u hb => ⟨obj_cell hb 0, obj_cell hb 1⟩)
  clear h hs z1 z2 z3 z4 y1 y2
  go_enter Tryz.func12, Tryz.ntmps12
  go_wp2
  go_region_held3 (fun w' => w'.cell? ⟨w.heap.size, 0, none⟩ = some (.slice A n cap) ∧ w'.cell? ⟨w.heap.size, 1, none⟩ = some (.slice A2 n2 cap2))
    (first | exact HK.out _ HBX.out.b2_one | exact HK.out _ (set_else (set_else HBX.out.b2_one (by show w.heap.size ≠ w.heap.size + 1; omega)) (by show w.heap.size ≠ w.heap.size + 1; omega)))
    (first
      | (go_at_call 32; refine (HE.out _ HBX.out.b2_bel).mono ?_; rintro e w2 ⟨A5, c5, rfl, hl, hb⟩; rw [HSZ.out] at hl; have HL := Lib.hid hl; have HS2 : Hid (w.heap.size + 1 + 1 ≤ w2.heap.size) := Lib.hid (by have := hb.size; rw [HSZ.out] at this; exact this); replace HBX := Lib.hid (bx2_step HBX.out hb); clear hl hb)
      | (go_at_call 34; refine (HM.out _ HBX.out.b2_bel).mono ?_; rintro e w3 ⟨A6, c6, rfl, hl, hb⟩; have HL2 := Lib.hid (ms_bel hl (Below.refl _ _) HS2.out); replace HL := Lib.hid (en_bel HL.out hb (Nat.le_refl _)); replace HBX := Lib.hid (bx2_step HBX.out hb); have z0 := obj_cell (HBX.out).b2_two 0; have z1 := obj_cell (HBX.out).b2_two 1; have y0 := obj_free (HBX.out).b2_two 0; have y1 := obj_free (HBX.out).b2_two 1; clear hl hb))
  go_wp2
  have e0 := obj_set HBX.out.b2_two 0 (.slice A5 n c5)
  have e1 := obj_set e0 1 (.slice A6 n2 c6)
  have d0 := obj_cell e1 0
  have d1 := obj_cell e1 1
  have hat : ScAt (Typed (w.heap.size + 1 + 1) w3) w3 A5 n c5 A6 n2 c6 s := ⟨HL.out, HL2.out, HN.out.1, HN.out.2⟩
  refine bodyPost_ret (v := .agg #[.slice A5 n c5, .slice A6 n2 c6]) ?_ rfl ⟨A5, n, c5, A6, n2, c6, rfl, scAt_weak (scAt_typed hat (Nat.le_refl _) (fun g hg => ?_)) (by omega), ?_⟩
  · have hres : Tryz.f12.results = #[.cell 2 25] := by kernel_rfl
    simp only [results, hres]
    go_simp
  · rw [Below.heap_setCell _ ⟨w.heap.size + 1, 1, none⟩ _ g (by show g ≠ w.heap.size + 1; omega), Below.heap_setCell _ ⟨w.heap.size + 1, 0, none⟩ _ g (by show g ≠ w.heap.size + 1; omega)]
  · exact (HBX.out.b2_bel.setCell (p := ⟨w.heap.size + 1, 0, none⟩) (Nat.le_succ _) _).setCell (p := ⟨w.heap.size + 1, 1, none⟩) (Nat.le_succ _) _
theorem sch_same_ok : SchSameOk ScEnv where
  ssame := fun S T w A n cap A2 n2 cap2 s B m cb B2 m2 cb2 t _ h k _ _ _ _ => ssame_any w h k
  scopy := fun S w A n cap A2 n2 cap2 s _ h _ hs => scopy_any w h hs
end Go.Proofs.YtpbhokmpbcmdcaaGreatDoor
