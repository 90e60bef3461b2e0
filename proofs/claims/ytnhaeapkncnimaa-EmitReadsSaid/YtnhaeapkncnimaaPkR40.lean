/- Several texts in one: EmN, EmLive. What each proves, and its conditions, stands at its own head. -/
import Derived.Test.YtnhaeapkncnimaaPkR28
import Derived.Test.YtnhaeapkncnimaaPkR27
import Derived.Test.YtnhaeapkncnimaaPkR38
import Derived.Test.YtnhaeapkncnimaaPkR1
/- What a nil writer, and one that New did not make, answer. Conditions: those that each theorem names. -/
namespace Go.Proofs.Ytnhaeapkncnimaa
open Go.RowKit
open Go.Lib (uvarint)
set_option linter.unusedVariables false
set_option maxRecDepth 100000

/-- What a call that writes nothing answers. -/
def No (w : World) (e : Ending) (w' : World) : Prop := e = .returned (.bool false) ∧ Below w.heap.size w w'
/-- A writer that can't be written to. -/
def Off (P : Option Addr) (w : World) : Prop := ∀ w', Below w.heap.size w w' → Calls Try.prog 34 #[.pointer P] w' fun e w'' => e = .returned (.bool false) ∧ w' = w''
theorem off_nil (w : World) : Off none w := fun w' _ => ready_nil w'
theorem off_unmade {B p : Nat} {S : Nat → Prop} {s : Ws} {w : World} (h : Wr B w p S false s) : Off (some ⟨p, 0, none⟩) w := fun w' hb => ready_any (h.bel hb)
theorem Off.bel {P : Option Addr} {w w' : World} (h : Off P w) (hb : Below w.heap.size w w') : Off P w' := fun w2 h2 => h w2 (hb.trans (h2.mono hb.size))

section
variable {P : Option Addr} {w : World}
theorem plain_off (h : Off P w) (A : Option Addr) (n cap : Nat) : Calls Try.prog 27 #[.pointer P, .slice A n cap] w (No w) := by
  have H := Lib.hid (h w (Below.refl _ _))
  clear h
  go_enter Try.func27, Try.ntmps27
  go_wp2_with (go_at_call 34; refine H.out.mono ?_; rintro e w' ⟨rfl, rfl⟩)
  go_ret
  exact ⟨rfl, Below.refl _ _⟩
theorem field_off (h : Off P w) (num wire : Int) (A : Option Addr) (n cap : Nat) : Calls Try.prog 35 #[.pointer P, .int .i64 num, .int .i64 wire, .slice A n cap] w (No w) := by
  have HO := Lib.hid (of_any num wire)
  have hlt := tagN_lt num wire
  have H := Lib.hid h
  generalize tagN num wire = tg at *
  cases hr : rightB num wire with
  | false =>
    rw [hr] at HO
    clear h hr
    go_enter Try.func35, Try.ntmps35
    go_wp2_with (go_at_call 33; refine (HO.out _).mono ?_; rintro e w' ⟨rfl, rfl⟩)
    go_ret
    exact ⟨rfl, Below.refl _ _⟩
  | true =>
    rw [hr] at HO
    have HLT := Lib.hid hlt
    clear h hr hlt
    go_enter Try.func35, Try.ntmps35
    go_wp2_with (first
      | (go_at_call 33; refine (HO.out _).mono ?_; rintro e w' ⟨rfl, rfl⟩)
      | (go_at_call 36; refine (put_new _ _ (by have := HLT.out; omega)).mono ?_; rintro e w1 ⟨A1, cap1, rfl, hB1, hb1, ha1⟩; have HBE1 := Lib.hid (hb1.alloc hb1.size (.cells #[.slice A1 (uvarint tg).length cap1] 38)); clear hB1 hb1 ha1)
      | (go_at_call 27; refine (plain_off (H.out.bel HBE1.out) _ _ _).mono ?_; rintro e w2 ⟨rfl, hb2⟩; have HB2 := Lib.hid (HBE1.out.trans (hb2.mono HBE1.out.size)); clear hb2))
    go_ret
    exact ⟨rfl, HB2.out⟩
theorem varint_off (h : Off P w) (num : Int) (n : Nat) (hn : n < 18446744073709551616) : Calls Try.prog 24 #[.pointer P, .int .i64 num, .int .u64 (n : Int)] w (No w) := by
  have H := Lib.hid h
  clear h
  go_enter Try.func24, Try.ntmps24
  go_wp2_with (first
    | (go_at_call 36; refine (put_new _ _ hn).mono ?_; rintro e w1 ⟨A1, cap1, rfl, hB1, hb1, ha1⟩; have HBE1 := Lib.hid (hb1.alloc hb1.size (.cells #[.slice A1 (uvarint n).length cap1] 38)); clear hB1 hb1 ha1)
    | (go_at_call 35; refine (field_off (H.out.bel HBE1.out) _ _ _ _ _).mono ?_; rintro e w2 ⟨rfl, hb2⟩; have HB2 := Lib.hid (HBE1.out.trans (hb2.mono HBE1.out.size)); clear hb2))
  go_ret
  exact ⟨rfl, HB2.out⟩
theorem fixed8_off (h : Off P w) (num : Int) (n : Nat) (hn : n < 18446744073709551616) : Calls Try.prog 26 #[.pointer P, .int .i64 num, .int .u64 (n : Int)] w (No w) := by
  have H := Lib.hid h
  have HP := Lib.hid (fun w => put8_new n w hn)
  generalize le 8 n = bs at HP
  clear h
  go_enter Try.func26, Try.ntmps26
  go_wp2_with (first
    | (go_at_call 45; refine (HP.out _).mono ?_; rintro e w1 ⟨A1, cap1, rfl, hB1, hb1, ha1⟩; have HBE1 := Lib.hid (hb1.alloc hb1.size (.cells #[.slice A1 bs.length cap1] 38)); clear hB1 hb1 ha1)
    | (go_at_call 35; refine (field_off (H.out.bel HBE1.out) _ _ _ _ _).mono ?_; rintro e w2 ⟨rfl, hb2⟩; have HB2 := Lib.hid (HBE1.out.trans (hb2.mono HBE1.out.size)); clear hb2))
  go_ret
  exact ⟨rfl, HB2.out⟩
theorem fixed4_off (h : Off P w) (num : Int) (n : Nat) (hn : n < 4294967296) : Calls Try.prog 25 #[.pointer P, .int .i64 num, .int .u32 (n : Int)] w (No w) := by
  have H := Lib.hid h
  have HP := Lib.hid (fun w => put4_new n w hn)
  generalize le 4 n = bs at HP
  clear h
  go_enter Try.func25, Try.ntmps25
  go_wp2_with (first
    | (go_at_call 44; refine (HP.out _).mono ?_; rintro e w1 ⟨A1, cap1, rfl, hB1, hb1, ha1⟩; have HBE1 := Lib.hid (hb1.alloc hb1.size (.cells #[.slice A1 bs.length cap1] 38)); clear hB1 hb1 ha1)
    | (go_at_call 35; refine (field_off (H.out.bel HBE1.out) _ _ _ _ _).mono ?_; rintro e w2 ⟨rfl, hb2⟩; have HB2 := Lib.hid (HBE1.out.trans (hb2.mono HBE1.out.size)); clear hb2))
  go_ret
  exact ⟨rfl, HB2.out⟩
theorem text_off (h : Off P w) (num : Int) (t : List UInt8) (ht : t.length ≤ 140737488351232) : Calls Try.prog 17 #[.pointer P, .int .i64 num, .string (strOf t)] w (No w) := by
  have HC := run_bytes t
  obtain ⟨N, hN⟩ : ∃ N, N = t.length := ⟨_, rfl⟩
  have hsz : (strOf t).size = N := by rw [str_size, hN]
  rw [← hN] at ht HC
  have hwr : IntKind.u64.wrap (N : Int) = (N : Int) := IntWalk.u64_in _ (by omega)
  have hn64 : N < 18446744073709551616 := by omega
  have H := Lib.hid h
  clear h hN
  go_enter Try.func17, Try.ntmps17
  go_wp2_with (first
    | (go_at_call 36; refine (put_new _ _ hn64).mono ?_; rintro e w1 ⟨A1, cap1, rfl, hB1, hb1, ha1⟩; have HBE1 := Lib.hid hb1; clear hB1 hb1 ha1)
    | (go_at_call 35; have b3 := HBE1.out.trans ((bytes_below w1 t).mono HBE1.out.size); have b4 := b3.alloc b3.size (.cells #[.slice A1 (uvarint N).length cap1, .slice (some ⟨w1.heap.size, 0, none⟩) N (grownCap w1 N 0 5)] 38); refine (field_off (H.out.bel b4) _ _ _ _ _).mono ?_; rintro e w2 ⟨rfl, hb2⟩; have HB2 := Lib.hid (b4.trans (hb2.mono b4.size)); clear hb2 b3 b4))
  go_ret
  exact ⟨rfl, HB2.out⟩
theorem open_off (h : Off P w) (num : Int) : Calls Try.prog 16 #[.pointer P, .int .i64 num] w (No w) := by
  have HO := Lib.hid (of_any num 2)
  have H := Lib.hid (h w (Below.refl _ _))
  generalize tagN num 2 = tg at *
  cases hr : rightB num 2
  all_goals
    rw [hr] at HO
    clear hr h
    go_enter Try.func16, Try.ntmps16
    go_wp2_with (first
      | (go_at_call 33; refine (HO.out _).mono ?_; rintro e w' ⟨rfl, rfl⟩)
      | (go_at_call 34; refine H.out.mono ?_; rintro e w' ⟨rfl, rfl⟩))
    go_ret
    exact ⟨rfl, Below.refl _ _⟩
end
end Go.Proofs.Ytnhaeapkncnimaa

/- The document's example, written. -/
namespace Go.Proofs.Ytnhaeapkncnimaa
open Go.RowKit
open Go.Lib (uvarint)
set_option linter.unusedVariables false
set_option maxRecDepth 100000

theorem uv10 : uvarint 10 = [10] := by rw [Lib.uvarint_small (by decide)]; rfl
theorem uv16 : uvarint 16 = [16] := by rw [Lib.uvarint_small (by decide)]; rfl
theorem uv3 : uvarint 3 = [3] := by rw [Lib.uvarint_small (by decide)]; rfl
theorem uv300 : uvarint 300 = [172, 2] := by rw [Lib.uvarint_big (by decide), Lib.uvarint_small (by decide)]; rfl

def sNew : Ws := ⟨[], [], [], 0⟩
def fL : Fr := ⟨10, 0, 0, []⟩
def sL1 : Ws := ⟨[], [fL], [0], 0⟩
def sL2 : Ws := ⟨[16, 172, 2], [fL], [0], 0⟩
def sL3 : Ws := ⟨[10, 3, 16, 172, 2], [], [], 0⟩
theorem rb2 : rightB 1 2 = true := by decide
theorem rb0 : rightB 2 0 = true := by decide
theorem sL1_eq : sNew.opens 1 = sL1 := by
  have e : tagN 1 2 = 10 := by decide
  rw [Ws.opens, if_pos rb2, e]; rfl
theorem sL2_eq : sL1.field 2 0 (uvarint 300) = sL2 := by
  have e : tagN 2 0 = 16 := by decide
  rw [Ws.field, if_pos rb0, e, uv16, uv300]; rfl
theorem sL3_eq : sL2.shut [] 0 fL = sL3 := by
  rw [Ws.shut, if_pos rfl]
  unfold Ws.shut1 Fr.headAt
  rw [show fL.tag = 10 from rfl, show sL2.raw.length + sL2.room - fL.before = 3 from rfl, uv10, uv3]
  rfl
section
variable {B p : Nat} {S : Nat → Prop} {w : World}
theorem live_open (h : Wr B w p S true sNew) : Calls Try.prog 16 #[.pointer (some ⟨p, 0, none⟩), .int .i64 1] w (WrTo B w p S true sL1 (.bool true)) := by
  have q := wopen_any h 1 (by decide) (by decide) (by decide)
  rwa [sL1_eq, rb2] at q
theorem live_varint (h : Wr B w p S true sL1) : Calls Try.prog 24 #[.pointer (some ⟨p, 0, none⟩), .int .i64 2, .int .u64 300] w (WrTo B w p S true sL2 (.bool true)) := by
  have q := wvarint_any h 2 300 (by decide) (by decide)
  rwa [sL2_eq, rb0] at q
theorem live_close (h : Wr B w p S true sL2) : Calls Try.prog 18 #[.pointer (some ⟨p, 0, none⟩)] w (WrTo B w p S true sL3 (.bool true)) := by
  have hf : (sL2.shut1 [] 0 fL).fs = [⟨10, 0, 0, [10, 3]⟩] := by
    unfold Ws.shut1 Fr.headAt
    rw [show fL.tag = 10 from rfl, show sL2.raw.length + sL2.room - fL.before = 3 from rfl, uv10, uv3]
    rfl
  have hr : (sL2.shut1 [] 0 fL).room = 2 := by
    unfold Ws.shut1 Fr.headAt
    rw [show fL.tag = 10 from rfl, show sL2.raw.length + sL2.room - fL.before = 3 from rfl, uv10, uv3]
    rfl
  have q := wclose_any h (init := []) (o := 0) (f := fL) rfl rfl (by decide) (by decide) (by decide) (by decide) (by decide) (fun _ => by rw [hf]; exact ⟨by decide, trivial⟩) (fun _ => by rw [hf, hr]; rfl)
  rwa [sL3_eq] at q
theorem live_bytes (h : Wr B w p S true sL3) : Calls Try.prog 14 #[.pointer (some ⟨p, 0, none⟩)] w (Gives w [10, 3, 16, 172, 2]) := wbytes_any h rfl (by decide)
theorem Wr.to (h : Wr B w p S true sNew) : B ≤ w.heap.size := by have := h.lt p h.mem; omega
theorem wr_below {made : Bool} {s : Ws} (h : Wr B w p S made s) {w' : World} (ht : Touch S w w') : Below B w w' :=
  ht.below (by have := h.lt p h.mem; omega) (fun k hk => (h.lt k hk).1)
end

set_option maxHeartbeats 1000000 in
theorem live_any (w : World) : Calls Try.prog 7 #[] w fun e w' => e = .returned (.bool true) ∧ Below w.heap.size w w' := by
  have H0 := Lib.hid (wr_new w true)
  have HB0 : Hid (Below w.heap.size w (w.alloc (.cells #[.bool true, .slice none 0 0, .slice none 0 0, .slice none 0 0, .int .i64 0] 54))) := (Below.refl _ _).alloc (Nat.le_refl _) _
  go_enter Try.func7, Try.ntmps7
  go_wp2_with (first
    | (go_at_call 8; refine (wnew_any _).mono ?_; rintro e w0 ⟨rfl, rfl⟩)
    | (go_at_call 16; refine (live_open H0.out).mono ?_; rintro e w1 ⟨rfl, S1, hw1, hs1, ht1⟩; have H1 := Lib.hid hw1; have HB1 := Lib.hid (HB0.out.trans (wr_below H0.out ht1)); clear hw1 hs1 ht1)
    | (go_at_call 24; refine (live_varint H1.out).mono ?_; rintro e w2 ⟨rfl, S2, hw2, hs2, ht2⟩; have H2 := Lib.hid hw2; have HB2 := Lib.hid (HB1.out.trans (wr_below H1.out ht2)); clear hw2 hs2 ht2)
    | (go_at_call 18; refine (live_close H2.out).mono ?_; rintro e w3 ⟨rfl, S3, hw3, hs3, ht3⟩; have H3 := Lib.hid hw3; have HB3 := Lib.hid (HB2.out.trans (wr_below H2.out ht3)); clear hw3 hs3 ht3)
    | (go_at_call 14; refine (live_bytes H3.out).mono ?_; rintro e w4 ⟨A4, cap4, rfl, hB4, hb4⟩; have HBS := Lib.hid hB4; have HB4 := Lib.hid (HB3.out.trans (hb4.mono HB3.out.size)); clear hB4 hb4)
    | (go_at_call 15; refine (bytes_n _ _ _ _ _ _ [10, 3, 16, 172, 2] [10, 3, 16, 172, 2] _ rfl rfl (HBS.out.alloc _) (Bs.lit w4 _ _ [10, 3, 16, 172, 2] rfl (by decide))).mono ?_; rintro e w5 ⟨rfl, rfl⟩))
  go_ret
  exact ⟨rfl, HB4.out.alloc HB4.out.size _⟩
end Go.Proofs.Ytnhaeapkncnimaa
