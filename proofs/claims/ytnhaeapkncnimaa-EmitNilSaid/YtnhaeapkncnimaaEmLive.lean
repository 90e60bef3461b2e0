/- The document's example, written. -/
import Derived.Test.YtnhaeapkncnimaaEmN
import Derived.Test.YtnhaeapkncnimaaBytesEq
namespace Go.Proofs.Ytnhaeapkncnimaa
open Go.RowKit
open Go.Lib (uvarint)
set_option linter.unusedVariables false
set_option maxRecDepth 100000

theorem uv10 : uvarint 10 = [10] := by rw [Lib.uvarint_small (by decide)]; rfl
theorem uv16 : uvarint 16 = [16] := by rw [Lib.uvarint_small (by decide)]; rfl
theorem uv3 : uvarint 3 = [3] := by rw [Lib.uvarint_small (by decide)]; rfl
theorem uv300 : uvarint 300 = [172, 2] := by rw [Lib.uvarint_big (by decide), Lib.uvarint_small (by decide)]; rfl

def sNew : Ws := ⟨[], [], [], 0⟩
def fL : Fr := ⟨10, 0, 0, []⟩
def sL1 : Ws := ⟨[], [fL], [0], 0⟩
def sL2 : Ws := ⟨[16, 172, 2], [fL], [0], 0⟩
def sL3 : Ws := ⟨[10, 3, 16, 172, 2], [], [], 0⟩
theorem rb2 : rightB 1 2 = true := by decide
theorem rb0 : rightB 2 0 = true := by decide
theorem sL1_eq : sNew.opens 1 = sL1 := by
  have e : tagN 1 2 = 10 := by decide
  rw [Ws.opens, if_pos rb2, e]; rfl
theorem sL2_eq : sL1.field 2 0 (uvarint 300) = sL2 := by
  have e : tagN 2 0 = 16 := by decide
  rw [Ws.field, if_pos rb0, e, uv16, uv300]; rfl
theorem sL3_eq : sL2.shut [] 0 fL = sL3 := by
  rw [Ws.shut, if_pos rfl]
  unfold Ws.shut1 Fr.headAt
  rw [show fL.tag = 10 from rfl, show sL2.raw.length + sL2.room - fL.before = 3 from rfl, uv10, uv3]
  rfl
section
variable {B p : Nat} {S : Nat → Prop} {w : World}
theorem live_open (h : Wr B w p S true sNew) : Calls Try.prog 16 #[.pointer (some ⟨p, 0, none⟩), .int .i64 1] w (WrTo B w p S true sL1 (.bool true)) := by
  have q := wopen_any h 1 (by decide) (by decide) (by decide)
  rwa [sL1_eq, rb2] at q
theorem live_varint (h : Wr B w p S true sL1) : Calls Try.prog 24 #[.pointer (some ⟨p, 0, none⟩), .int .i64 2, .int .u64 300] w (WrTo B w p S true sL2 (.bool true)) := by
  have q := wvarint_any h 2 300 (by decide) (by decide)
  rwa [sL2_eq, rb0] at q
theorem live_close (h : Wr B w p S true sL2) : Calls Try.prog 18 #[.pointer (some ⟨p, 0, none⟩)] w (WrTo B w p S true sL3 (.bool true)) := by
  have hf : (sL2.shut1 [] 0 fL).fs = [⟨10, 0, 0, [10, 3]⟩] := by
    unfold Ws.shut1 Fr.headAt
    rw [show fL.tag = 10 from rfl, show sL2.raw.length + sL2.room - fL.before = 3 from rfl, uv10, uv3]
    rfl
  have hr : (sL2.shut1 [] 0 fL).room = 2 := by
    unfold Ws.shut1 Fr.headAt
    rw [show fL.tag = 10 from rfl, show sL2.raw.length + sL2.room - fL.before = 3 from rfl, uv10, uv3]
    rfl
  have q := wclose_any h (init := []) (o := 0) (f := fL) rfl rfl (by decide) (by decide) (by decide) (by decide) (by decide) (fun _ => by rw [hf]; exact ⟨by decide, trivial⟩) (fun _ => by rw [hf, hr]; rfl)
  rwa [sL3_eq] at q
theorem live_bytes (h : Wr B w p S true sL3) : Calls Try.prog 14 #[.pointer (some ⟨p, 0, none⟩)] w (Gives w [10, 3, 16, 172, 2]) := wbytes_any h rfl (by decide)
theorem Wr.to (h : Wr B w p S true sNew) : B ≤ w.heap.size := by have := h.lt p h.mem; omega
theorem wr_below {made : Bool} {s : Ws} (h : Wr B w p S made s) {w' : World} (ht : Touch S w w') : Below B w w' :=
  ht.below (by have := h.lt p h.mem; omega) (fun k hk => (h.lt k hk).1)
end

set_option maxHeartbeats 1000000 in
theorem live_any (w : World) : Calls Try.prog 7 #[] w fun e w' => e = .returned (.bool true) ∧ Below w.heap.size w w' := by
  have H0 := Lib.hid (wr_new w true)
  have HB0 : Hid (Below w.heap.size w (w.alloc (.cells #[.bool true, .slice none 0 0, .slice none 0 0, .slice none 0 0, .int .i64 0] 54))) := (Below.refl _ _).alloc (Nat.le_refl _) _
  go_enter Try.func7, Try.ntmps7
  go_wp2_with (first
    | (go_at_call 8; refine (wnew_any _).mono ?_; rintro e w0 ⟨rfl, rfl⟩)
    | (go_at_call 16; refine (live_open H0.out).mono ?_; rintro e w1 ⟨rfl, S1, hw1, hs1, ht1⟩; have H1 := Lib.hid hw1; have HB1 := Lib.hid (HB0.out.trans (wr_below H0.out ht1)); clear hw1 hs1 ht1)
    | (go_at_call 24; refine (live_varint H1.out).mono ?_; rintro e w2 ⟨rfl, S2, hw2, hs2, ht2⟩; have H2 := Lib.hid hw2; have HB2 := Lib.hid (HB1.out.trans (wr_below H1.out ht2)); clear hw2 hs2 ht2)
    | (go_at_call 18; refine (live_close H2.out).mono ?_; rintro e w3 ⟨rfl, S3, hw3, hs3, ht3⟩; have H3 := Lib.hid hw3; have HB3 := Lib.hid (HB2.out.trans (wr_below H2.out ht3)); clear hw3 hs3 ht3)
    | (go_at_call 14; refine (live_bytes H3.out).mono ?_; rintro e w4 ⟨A4, cap4, rfl, hB4, hb4⟩; have HBS := Lib.hid hB4; have HB4 := Lib.hid (HB3.out.trans (hb4.mono HB3.out.size)); clear hB4 hb4)
    | (go_at_call 15; refine (bytes_n _ _ _ _ _ _ [10, 3, 16, 172, 2] [10, 3, 16, 172, 2] _ rfl rfl (HBS.out.alloc _) (Bs.lit w4 _ _ [10, 3, 16, 172, 2] rfl (by decide))).mono ?_; rintro e w5 ⟨rfl, rfl⟩))
  go_ret
  exact ⟨rfl, HB4.out.alloc HB4.out.size _⟩
end Go.Proofs.Ytnhaeapkncnimaa
