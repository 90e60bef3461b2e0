/- The program's layer 8: Put, by the library's strings.Builder. Conditions: those that each theorem names. -/
import Derived.Test.YtfmhpicnajeflaaRhA
import Derived.Test.YtfmhpicnajeflaaSbG
import Derived.Test.YtfmhpicnajeflaaSbW
import Derived.Test.YtfmhpicnajeflaaSbS
namespace Go.Proofs.Ytfmhpicnajeflaa
open Go.RowKit
set_option linter.unusedVariables false
set_option maxRecDepth 100000

theorem sb_grow (B b n : Nat) (i : Int) (hi : i = (n : Int)) (w : World) (hB : B ≤ b) (hbk : w.heap[b]? = some (.cells #[.pointer none, .slice none 0 0] 34 (0, 0))) (hBw : B ≤ w.heap.size) (hn : n ≤ 281474976710656) :
    Calls Try.prog 13 #[.pointer (some ⟨b, 0, none⟩), .int .i64 i] w fun e w' => e = .returned (.tuple #[]) ∧ Lib.IsBuilder 34 5 B b (cellsOf []) w' ∧ Below B w w' := by
  subst hi
  exact Calls.mono (Any.Builder_Grow_fresh sbg_lays sbg_extra B b n w hB hbk hBw hn) fun e w' h => ⟨h.1, .inr h.2.1, h.2.2⟩
theorem sb_byte (B b : Nat) (bs : List UInt8) (c : UInt8) (w : World) (h : Lib.IsBuilder 34 5 B b (cellsOf bs) w) (hl : bs.length < 140737488355328) (hBw : B ≤ w.heap.size) :
    Calls Try.prog 14 #[.pointer (some ⟨b, 0, none⟩), .int .u8 (c.toNat : Int)] w fun e w' => e = .returned .nilIface ∧ Lib.IsBuilder 34 5 B b (cellsOf (bs ++ [c])) w' ∧ Below B w w' :=
  Calls.mono (Any.Builder_WriteByte sbw_lays sbw_extra B b (cellsOf bs) (c.toNat : Int) w h (by rw [cellsOf_length]; omega) hBw) fun e w' h => ⟨h.1, .inr (by rw [show cellsOf (bs ++ [c]) = cellsOf bs ++ [.int .u8 (c.toNat : Int)] by simp [cellsOf]]; exact h.2.1), h.2.2⟩
theorem sb_text (B b : Nat) (bs : List UInt8) (w : World) (h : Lib.IsBuilder 34 5 B b (cellsOf bs) w) (hBw : B ≤ w.heap.size) :
    Calls Try.prog 15 #[.pointer (some ⟨b, 0, none⟩)] w fun e w' => e = .returned (.string (strOf bs)) ∧ Below B w w' :=
  Any.Builder_String_any sbs_lays sbs_extra B b bs w h hBw
theorem hexdig_fin : ∀ i : Fin 16, (#[48, 49, 50, 51, 52, 53, 54, 55, 56, 57, 97, 98, 99, 100, 101, 102] : Array UInt8)[i.val]'i.isLt = dg i.val := by decide
theorem hexdig_at (q : Nat) (h : q < 16) (w : World) : (Instr.index 9 (.string { data := #[48, 49, 50, 51, 52, 53, 54, 55, 56, 57, 97, 98, 99, 100, 101, 102] }) (.int .u8 (q : Int))).run Try.prog w = .ok (.int .u8 ((dg q).toNat : Int)) w := by
  rw [run_index_string w 9 _ .u8 q Try.underlying9, dif_pos ⟨by omega, by show (q : Int) < 16; omega⟩]
  exact congrArg (fun c : UInt8 => Result.ok (Value.int .u8 (c.toNat : Int)) w) (hexdig_fin ⟨q, h⟩)
set_option maxHeartbeats 1000000 in
theorem hexput_any (w : World) {A : Option Addr} {cap n : Nat} {bs : List UInt8} (hb : Bs w A cap bs) (hn : n = bs.length) (hl : bs.length ≤ 70368744177664) :
    Calls Try.prog 7 #[.slice A n cap] w fun e w' => e = .returned (.string (strOf (hexOf bs))) ∧ Below w.heap.size w w' := by
  have hle := hb.le
  have hmx := hb.max
  unfold maxLen at hmx
  rw [← hn] at hle hl
  have H := Lib.hid hb
  have HN := Lib.hid hn
  have HG := Lib.hid (sb_grow w.heap.size w.heap.size (2 * n) (2 * (n : Int)) (by omega) (w.alloc (.cells #[.pointer none, .slice none 0 0] 34)) (Nat.le_refl _) (heap_alloc_new w _) (by simp) (by omega))
  have H0 : Hid (Below w.heap.size w (w.alloc (.cells #[.pointer none, .slice none 0 0] 34))) := Lib.hid ((Below.refl _ _).alloc (Nat.le_refl _) _)
  clear hb hn
  go_enter Try.func7, Try.ntmps7
  go_wp2_with (first
    | (go_at_call 13
       refine HG.out.mono ?_
       rintro e w1 ⟨rfl, hs1, hb1⟩
       have HS1 := Lib.hid hs1
       have HB1 := Lib.hid (H0.out.trans hb1)
       clear hs1 hb1))
  go_loopw [12] (fun x wr => ∃ k : Nat, k ≤ n ∧ x = .int .i64 (k : Int) ∧ Lib.IsBuilder 34 5 w.heap.size w.heap.size (cellsOf (hexOf (bs.take k))) wr ∧ Below w.heap.size w wr) (fun x _ => n - (intOf x).toNat)
  case atStart => exact ⟨0, Nat.zero_le _, rfl, HS1.out, HB1.out⟩
  case round =>
    obtain ⟨k, hk, rfl, hs, hbel⟩ := hrel
    have HS := Lib.hid hs
    have HBE := Lib.hid hbel
    by_cases hlt : k < n
    · have g1 : decide ((k : Int) < (n : Int)) = true := decide_eq_true (by omega)
      obtain ⟨c, hc⟩ : ∃ c, bs[k]? = some c := ⟨_, List.getElem?_eq_getElem (by have := HN.out; omega)⟩
      obtain ⟨g, off, rfl, c0⟩ := H.out.at_ k c hc
      have hgl : g < w.heap.size := by
        rcases Nat.lt_or_ge g w.heap.size with h' | h'
        · exact h'
        · simp [World.cell?, Array.getElem?_eq_none h'] at c0
      have hcn := c.toNat_lt
      have hpl : (hexOf (bs.take k)).length = 2 * k := by rw [hexOf_length, List.length_take]; have := HN.out; omega
      have HPT := Lib.hid (hexOf_take hc)
      have HPL := Lib.hid hpl
      obtain ⟨pre, hpre⟩ : ∃ pre, pre = hexOf (bs.take k) := ⟨_, rfl⟩
      rw [← hpre] at HS HPL HPT
      have c0r := (hbel.cell (p := ⟨g, off + k, none⟩) hgl).trans c0
      obtain ⟨q1, hq1⟩ : ∃ q1, q1 = c.toNat / 16 := ⟨_, rfl⟩
      obtain ⟨q2, hq2⟩ : ∃ q2, q2 = c.toNat % 16 := ⟨_, rfl⟩
      rw [← hq1, ← hq2] at HPT
      have e1 : ((c.toNat : Int)).tdiv 16 = (q1 : Int) := by rw [hq1, Int.tdiv_eq_ediv_of_nonneg (by omega)]; omega
      have e2 : ((c.toNat : Int)).tmod 16 = (q2 : Int) := by rw [hq2, Int.tmod_eq_emod_of_nonneg (by omega)]; omega
      have w1 : IntKind.u8.wrap (q1 : Int) = (q1 : Int) := by rw [IntKind.wrap_u8]; omega
      have w2 : IntKind.u8.wrap (q2 : Int) = (q2 : Int) := by rw [IntKind.wrap_u8]; omega
      have i1 := fun w => hexdig_at q1 (by omega) w
      have i2 := fun w => hexdig_at q2 (by omega) w
      have HW1 := Lib.hid (sb_byte w.heap.size w.heap.size pre (dg q1) wr HS.out (by have := HPL.out; omega) HBE.out.size)
      have HW2 := Lib.hid (fun wr hs hb => sb_byte w.heap.size w.heap.size (pre ++ [dg q1]) (dg q2) wr hs (by have := HPL.out; simp; omega) hb)
      obtain ⟨d1, hd1⟩ : ∃ d1, d1 = dg q1 := ⟨_, rfl⟩
      obtain ⟨d2, hd2⟩ : ∃ d2, d2 = dg q2 := ⟨_, rfl⟩
      rw [← hd1] at HPT i1 HW1 HW2
      rw [← hd2] at HPT i2 HW2
      clear hbel hs hc hpl hpre hd1 hd2 hq1 hq2 c0 hgl
      go_wp2_with (first
        | (go_at_call 14
           refine HW1.out.mono ?_
           rintro e wa ⟨rfl, hsa, hba⟩
           have HSA := Lib.hid hsa
           have HBA := Lib.hid (HBE.out.trans hba)
           clear hsa hba HW1)
        | (go_at_call 14
           refine (HW2.out _ HSA.out HBA.out.size).mono ?_
           rintro e wb ⟨rfl, hsb, hbb⟩
           have HSB := Lib.hid hsb
           have HBB := Lib.hid (HBA.out.trans hbb)
           clear hsb hbb))
      go_roundw
      case rel => exact ⟨k + 1, by omega, by go_num, by rw [HPT.out]; rw [show pre ++ [d1, d2] = pre ++ [d1] ++ [d2] by simp]; exact HSB.out, HBB.out⟩
      case measure => simp [intOf]; omega
    · have g1 : decide ((k : Int) < (n : Int)) = false := decide_eq_false (by omega)
      have e : bs.take k = bs := List.take_of_length_le (by have := HN.out; omega)
      rw [e] at HS
      have HT := Lib.hid (sb_text w.heap.size w.heap.size (hexOf bs) wr HS.out HBE.out.size)
      clear hs hbel e
      go_wp2_with (first
        | (go_at_call 15
           refine HT.out.mono ?_
           rintro e wt ⟨rfl, hbt⟩
           have HBT := Lib.hid (HBE.out.trans hbt)
           clear hbt))
      go_ret
      exact ⟨rfl, HBT.out⟩
end Go.Proofs.Ytfmhpicnajeflaa
