/- What a nil writer, and one that New did not make, answer. Conditions: those that each theorem names. -/
import Derived.Test.YtnhaeapkncnimaaEmT
import Derived.Test.YtnhaeapkncnimaaEmO
import Derived.Test.YtnhaeapkncnimaaEmC
namespace Go.Proofs.Ytnhaeapkncnimaa
open Go.RowKit
open Go.Lib (uvarint)
set_option linter.unusedVariables false
set_option maxRecDepth 100000

/-- What a call that writes nothing answers. -/
def No (w : World) (e : Ending) (w' : World) : Prop := e = .returned (.bool false) ∧ Below w.heap.size w w'
/-- A writer that can't be written to. -/
def Off (P : Option Addr) (w : World) : Prop := ∀ w', Below w.heap.size w w' → Calls Try.prog 34 #[.pointer P] w' fun e w'' => e = .returned (.bool false) ∧ w' = w''
theorem off_nil (w : World) : Off none w := fun w' _ => ready_nil w'
theorem off_unmade {B p : Nat} {S : Nat → Prop} {s : Ws} {w : World} (h : Wr B w p S false s) : Off (some ⟨p, 0, none⟩) w := fun w' hb => ready_any (h.bel hb)
theorem Off.bel {P : Option Addr} {w w' : World} (h : Off P w) (hb : Below w.heap.size w w') : Off P w' := fun w2 h2 => h w2 (hb.trans (h2.mono hb.size))

section
variable {P : Option Addr} {w : World}
theorem plain_off (h : Off P w) (A : Option Addr) (n cap : Nat) : Calls Try.prog 27 #[.pointer P, .slice A n cap] w (No w) := by
  have H := Lib.hid (h w (Below.refl _ _))
  clear h
  go_enter Try.func27, Try.ntmps27
  go_wp2_with (go_at_call 34; refine H.out.mono ?_; rintro e w' ⟨rfl, rfl⟩)
  go_ret
  exact ⟨rfl, Below.refl _ _⟩
theorem field_off (h : Off P w) (num wire : Int) (A : Option Addr) (n cap : Nat) : Calls Try.prog 35 #[.pointer P, .int .i64 num, .int .i64 wire, .slice A n cap] w (No w) := by
  have HO := Lib.hid (of_any num wire)
  have hlt := tagN_lt num wire
  have H := Lib.hid h
  generalize tagN num wire = tg at *
  cases hr : rightB num wire with
  | false =>
    rw [hr] at HO
    clear h hr
    go_enter Try.func35, Try.ntmps35
    go_wp2_with (go_at_call 33; refine (HO.out _).mono ?_; rintro e w' ⟨rfl, rfl⟩)
    go_ret
    exact ⟨rfl, Below.refl _ _⟩
  | true =>
    rw [hr] at HO
    have HLT := Lib.hid hlt
    clear h hr hlt
    go_enter Try.func35, Try.ntmps35
    go_wp2_with (first
      | (go_at_call 33; refine (HO.out _).mono ?_; rintro e w' ⟨rfl, rfl⟩)
      | (go_at_call 36; refine (put_new _ _ (by have := HLT.out; omega)).mono ?_; rintro e w1 ⟨A1, cap1, rfl, hB1, hb1, ha1⟩; have HBE1 := Lib.hid (hb1.alloc hb1.size (.cells #[.slice A1 (uvarint tg).length cap1] 38)); clear hB1 hb1 ha1)
      | (go_at_call 27; refine (plain_off (H.out.bel HBE1.out) _ _ _).mono ?_; rintro e w2 ⟨rfl, hb2⟩; have HB2 := Lib.hid (HBE1.out.trans (hb2.mono HBE1.out.size)); clear hb2))
    go_ret
    exact ⟨rfl, HB2.out⟩
theorem varint_off (h : Off P w) (num : Int) (n : Nat) (hn : n < 18446744073709551616) : Calls Try.prog 24 #[.pointer P, .int .i64 num, .int .u64 (n : Int)] w (No w) := by
  have H := Lib.hid h
  clear h
  go_enter Try.func24, Try.ntmps24
  go_wp2_with (first
    | (go_at_call 36; refine (put_new _ _ hn).mono ?_; rintro e w1 ⟨A1, cap1, rfl, hB1, hb1, ha1⟩; have HBE1 := Lib.hid (hb1.alloc hb1.size (.cells #[.slice A1 (uvarint n).length cap1] 38)); clear hB1 hb1 ha1)
    | (go_at_call 35; refine (field_off (H.out.bel HBE1.out) _ _ _ _ _).mono ?_; rintro e w2 ⟨rfl, hb2⟩; have HB2 := Lib.hid (HBE1.out.trans (hb2.mono HBE1.out.size)); clear hb2))
  go_ret
  exact ⟨rfl, HB2.out⟩
theorem fixed8_off (h : Off P w) (num : Int) (n : Nat) (hn : n < 18446744073709551616) : Calls Try.prog 26 #[.pointer P, .int .i64 num, .int .u64 (n : Int)] w (No w) := by
  have H := Lib.hid h
  have HP := Lib.hid (fun w => put8_new n w hn)
  generalize le 8 n = bs at HP
  clear h
  go_enter Try.func26, Try.ntmps26
  go_wp2_with (first
    | (go_at_call 45; refine (HP.out _).mono ?_; rintro e w1 ⟨A1, cap1, rfl, hB1, hb1, ha1⟩; have HBE1 := Lib.hid (hb1.alloc hb1.size (.cells #[.slice A1 bs.length cap1] 38)); clear hB1 hb1 ha1)
    | (go_at_call 35; refine (field_off (H.out.bel HBE1.out) _ _ _ _ _).mono ?_; rintro e w2 ⟨rfl, hb2⟩; have HB2 := Lib.hid (HBE1.out.trans (hb2.mono HBE1.out.size)); clear hb2))
  go_ret
  exact ⟨rfl, HB2.out⟩
theorem fixed4_off (h : Off P w) (num : Int) (n : Nat) (hn : n < 4294967296) : Calls Try.prog 25 #[.pointer P, .int .i64 num, .int .u32 (n : Int)] w (No w) := by
  have H := Lib.hid h
  have HP := Lib.hid (fun w => put4_new n w hn)
  generalize le 4 n = bs at HP
  clear h
  go_enter Try.func25, Try.ntmps25
  go_wp2_with (first
    | (go_at_call 44; refine (HP.out _).mono ?_; rintro e w1 ⟨A1, cap1, rfl, hB1, hb1, ha1⟩; have HBE1 := Lib.hid (hb1.alloc hb1.size (.cells #[.slice A1 bs.length cap1] 38)); clear hB1 hb1 ha1)
    | (go_at_call 35; refine (field_off (H.out.bel HBE1.out) _ _ _ _ _).mono ?_; rintro e w2 ⟨rfl, hb2⟩; have HB2 := Lib.hid (HBE1.out.trans (hb2.mono HBE1.out.size)); clear hb2))
  go_ret
  exact ⟨rfl, HB2.out⟩
theorem text_off (h : Off P w) (num : Int) (t : List UInt8) (ht : t.length ≤ 140737488351232) : Calls Try.prog 17 #[.pointer P, .int .i64 num, .string (strOf t)] w (No w) := by
  have HC := run_bytes t
  obtain ⟨N, hN⟩ : ∃ N, N = t.length := ⟨_, rfl⟩
  have hsz : (strOf t).size = N := by rw [str_size, hN]
  rw [← hN] at ht HC
  have hwr : IntKind.u64.wrap (N : Int) = (N : Int) := IntWalk.u64_in _ (by omega)
  have hn64 : N < 18446744073709551616 := by omega
  have H := Lib.hid h
  clear h hN
  go_enter Try.func17, Try.ntmps17
  go_wp2_with (first
    | (go_at_call 36; refine (put_new _ _ hn64).mono ?_; rintro e w1 ⟨A1, cap1, rfl, hB1, hb1, ha1⟩; have HBE1 := Lib.hid hb1; clear hB1 hb1 ha1)
    | (go_at_call 35; have b3 := HBE1.out.trans ((bytes_below w1 t).mono HBE1.out.size); have b4 := b3.alloc b3.size (.cells #[.slice A1 (uvarint N).length cap1, .slice (some ⟨w1.heap.size, 0, none⟩) N (grownCap w1 N 0 5)] 38); refine (field_off (H.out.bel b4) _ _ _ _ _).mono ?_; rintro e w2 ⟨rfl, hb2⟩; have HB2 := Lib.hid (b4.trans (hb2.mono b4.size)); clear hb2 b3 b4))
  go_ret
  exact ⟨rfl, HB2.out⟩
theorem open_off (h : Off P w) (num : Int) : Calls Try.prog 16 #[.pointer P, .int .i64 num] w (No w) := by
  have HO := Lib.hid (of_any num 2)
  have H := Lib.hid (h w (Below.refl _ _))
  generalize tagN num 2 = tg at *
  cases hr : rightB num 2
  all_goals
    rw [hr] at HO
    clear hr h
    go_enter Try.func16, Try.ntmps16
    go_wp2_with (first
      | (go_at_call 33; refine (HO.out _).mono ?_; rintro e w' ⟨rfl, rfl⟩)
      | (go_at_call 34; refine H.out.mono ?_; rintro e w' ⟨rfl, rfl⟩))
    go_ret
    exact ⟨rfl, Below.refl _ _⟩
end
end Go.Proofs.Ytnhaeapkncnimaa
