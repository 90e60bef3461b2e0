/- The document's Put of hex. Conditions: those that each theorem names. -/
import Derived.Test.YtfmhpicnajeflaaRhA
import Derived.Test.YtfmhpicnajeflaaAppSteps
import Derived.Deep.RegionHeld3
namespace Go.Proofs.Ytfmhpicnajeflaa
open Go.RowKit
set_option linter.unusedVariables false
set_option maxRecDepth 100000

set_option maxHeartbeats 1000000 in
theorem rhexput_any (w : World) {A : Option Addr} {cap n : Nat} {bs : List UInt8} (hb : Bs w A cap bs) (hn : n = bs.length) (hl : bs.length ≤ 70368744177664) :
    Calls Try.prog 8 #[.slice A n cap] w fun e w' => e = .returned (.string (strOf (hexOf bs))) ∧ Below w.heap.size w w' := by
  obtain ⟨i0, hi, hz0, hz1, hz2⟩ := info_parts info_u8
  have hle := hb.le
  have hmx := hb.max
  unfold maxLen at hmx
  rw [← hn] at hle hl
  have H := Lib.hid hb
  have HN := Lib.hid hn
  have hown0 : (w.alloc (.cells #[] 5)).ownsRow w.heap.size 5 1 (.slice (some ⟨w.heap.size, 0, none⟩) 0 0) 0 (cellsOf (hexOf (bs.take 0))) := ⟨rfl, .inr ⟨w.heap.size, 0, _, rfl, Nat.le_refl _, heap_alloc_new w _, Nat.le_refl _, by decide, rfl, rfl⟩⟩
  have HO := Lib.hid hown0
  clear hb hn hown0
  go_enter Try.func8, Try.ntmps8
  go_wp2
  go_loopw [3, 4] (fun v x wr => ∃ (k m : Nat) (vo : Value), k ≤ n ∧ x = .int .i64 (k : Int) ∧ vo = v ∧ wr.ownsRow w.heap.size 5 1 vo m (cellsOf (hexOf (bs.take k))) ∧ Below w.heap.size w wr) (fun _ x _ => n - (intOf x).toNat)
  case atStart => exact ⟨0, 0, _, Nat.zero_le _, rfl, rfl, HO.out, (Below.refl _ _).alloc (Nat.le_refl _) _⟩
  case round =>
    obtain ⟨k, m, vo, hk, rfl, rfl, hown, hbel⟩ := hrel
    have HBE := Lib.hid hbel
    by_cases hlt : k < n
    · have g1 : decide ((k : Int) < (n : Int)) = true := decide_eq_true (by omega)
      obtain ⟨c, hc⟩ : ∃ c, bs[k]? = some c := ⟨_, List.getElem?_eq_getElem (by have := HN.out; omega)⟩
      obtain ⟨g, off, rfl, c0⟩ := H.out.at_ k c hc
      have hgl : g < w.heap.size := by
        rcases Nat.lt_or_ge g w.heap.size with h' | h'
        · exact h'
        · simp [World.cell?, Array.getElem?_eq_none h'] at c0
      have hcn := c.toNat_lt
      have hpl : (hexOf (bs.take k)).length = 2 * k := by rw [hexOf_length, List.length_take]; have := HN.out; omega
      have HPT := Lib.hid (hexOf_take hc)
      have HD1 := Lib.hid (fun w => rdigit_any (c.toNat / 16) (by omega) w)
      have HD2 := Lib.hid (fun w => rdigit_any (c.toNat % 16) (by omega) w)
      obtain ⟨d1, hd1⟩ : ∃ d1, d1 = dg (c.toNat / 16) := ⟨_, rfl⟩
      obtain ⟨d2, hd2⟩ : ∃ d2, d2 = dg (c.toNat % 16) := ⟨_, rfl⟩
      rw [← hd1] at HPT HD1
      rw [← hd2] at HPT HD2
      obtain ⟨q1, hq1⟩ : ∃ q1, q1 = c.toNat / 16 := ⟨_, rfl⟩
      obtain ⟨q2, hq2⟩ : ∃ q2, q2 = c.toNat % 16 := ⟨_, rfl⟩
      rw [← hq1] at HD1
      rw [← hq2] at HD2
      have w0 : IntKind.i64.wrap (c.toNat : Int) = (c.toNat : Int) := IntWalk.i64_in _ (by omega)
      have e1 : ((c.toNat : Int)).tdiv 16 = (q1 : Int) := by rw [hq1, Int.tdiv_eq_ediv_of_nonneg (by omega)]; omega
      have e2 : ((c.toNat : Int)).tmod 16 = (q2 : Int) := by rw [hq2, Int.tmod_eq_emod_of_nonneg (by omega)]; omega
      have w1 : IntKind.i64.wrap (q1 : Int) = (q1 : Int) := IntWalk.i64_in _ (by omega)
      have w2 : IntKind.i64.wrap (q2 : Int) = (q2 : Int) := IntWalk.i64_in _ (by omega)
      have E1 : Hid (IntKind.i64.wrap ((IntKind.i64.wrap (c.toNat : Int)).tdiv 16) = (q1 : Int)) := Lib.hid (by rw [w0, e1, w1])
      have E2 : Hid (IntKind.i64.wrap ((IntKind.i64.wrap (c.toNat : Int)).tmod 16) = (q2 : Int)) := Lib.hid (by rw [w0, e2, w2])
      have E3 : Hid ((IntKind.i64.wrap (c.toNat : Int)).tmod 16 = (q2 : Int)) := Lib.hid (by rw [w0, e2])
      clear w0 e1 e2 w1 w2
      obtain ⟨pre, hpre⟩ : ∃ pre, pre = hexOf (bs.take k) := ⟨_, rfl⟩
      rw [← hpre] at hown HPT hpl
      have c0r := (hbel.cell (p := ⟨g, off + k, none⟩) hgl).trans c0
      have HOWN := Lib.hid hown
      have HOWN2 : Hid (∀ o, ((wr.alloc o).drew).ownsRow w.heap.size 5 1 vo m (cellsOf pre)) := Lib.hid (fun o => own_below hown (((Below.refl _ wr).alloc (Nat.le_refl _) o).drew))
      have HSZ : Hid (∀ o, w.heap.size ≤ ((wr.alloc o).drew).heap.size) := Lib.hid (fun o => by have := hbel.size; simp; omega)
      have HCC : Hid (∀ w', Below w.heap.size w w' → w'.cell? ⟨g, off + k, none⟩ = some (.int .u8 (c.toNat : Int))) := Lib.hid (fun w' hb => (hb.cell (p := ⟨g, off + k, none⟩) hgl).trans c0)
      have C4 : Hid (∀ o, ((wr.alloc o).drew).cell? ⟨g, off + k, none⟩ = some (.int .u8 (c.toNat : Int))) := Lib.hid (fun o => HCC.out _ ((hbel.alloc hbel.size o).drew))
      have HPL := Lib.hid hpl
      clear hown hbel hc hpl hpre hd1 hd2 hq1 hq2 c0 hgl
      go_wp2
      go_region_held3 (fun w' => w'.cell? ⟨g, off + k, none⟩ = some (.int .u8 (c.toNat : Int)))
        (first | exact C3.out | exact c0r | exact C4.out _)
        (first
          | (go_at_call 16; rw [E1.out]; refine (HD1.out _).mono ?_; rintro e w2 ⟨rfl, rfl⟩; clear HD1)
          | (go_at_call 16; (first | rw [E2.out] | rw [E3.out]); refine (HD2.out _).mono ?_; rintro e w2 ⟨rfl, rfl⟩; clear HD2)
          | (refine step_append_bs rfl _ _ (by rfl) (by rfl) (HOWN2.out _) (by rfl) (Bs.lit wr _ _ [d1, d2] rfl (by simp only [List.length_cons, List.length_nil]; unfold maxLen; omega)).drew rfl (by have := HPL.out; simp only [List.length_cons, List.length_nil]; omega) (HSZ.out _) ?_
             intro v3 w3 ho3 hg3
             have HO3 := Lib.hid ho3
             have HBE3 := Lib.hid (((HBE.out.alloc HBE.out.size (.cells #[.int .u8 (d1.toNat : Int), .int .u8 (d2.toNat : Int)] 5)).drew).grown hg3 (HSZ.out _) (fun j hj => (HOWN.out.lt j hj).1))
             have C3 := Lib.hid (HCC.out _ HBE3.out)
             clear ho3 hg3))
      go_wp2
      go_roundw
      case rel => exact ⟨k + 1, _, _, by omega, by go_num, rfl, by rw [HPT.out]; exact HO3.out, HBE3.out⟩
      case measure => simp [intOf]; omega
    · have g1 : decide ((k : Int) < (n : Int)) = false := decide_eq_false (by omega)
      have e : bs.take k = bs := List.take_of_length_le (by have := HN.out; omega)
      rw [e] at hown
      obtain ⟨hm, Av, capv, hv, hBs⟩ := Bs.own hown
      subst hv
      have gs := run_string_bytes (P := Try.prog) hBs Try.underlying22 Try.underlying5 Try.underlying9
      clear hown hbel e
      go_wp2
      go_ret
      exact ⟨rfl, HBE.out⟩
end Go.Proofs.Ytfmhpicnajeflaa
