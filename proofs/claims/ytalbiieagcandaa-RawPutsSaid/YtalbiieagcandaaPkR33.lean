/- Several texts in one: EmT. What each proves, and its conditions, stands at its own head. -/
import Derived.Test.YtalbiieagcandaaPkR32
import Derived.Test.YtalbiieagcandaaPkR18
import Derived.Test.YtalbiieagcandaaPkR5
/- Text, and Bytes. Conditions: those that each theorem names. -/
namespace Go.Proofs.Ytalbiieagcandaa
open Go.RowKit
open Go.Lib (uvarint)
set_option linter.unusedVariables false
set_option maxRecDepth 100000

set_option maxHeartbeats 1000000 in
theorem wtext_any {B p : Nat} {S : Nat → Prop} {s : Ws} {w : World} (h : Wr B w p S true s) (num : Int) (t : List UInt8) (hb : s.raw.length + (20 + t.length) ≤ 140737488355328) :
    Calls Try.prog 40 #[.pointer (some ⟨p, 0, none⟩), .int .i64 num, .string (strOf t)] w (WrTo B w p S true (s.field num 2 (uvarint t.length ++ t)) (.bool (rightB num 2))) := by
  have HC := run_bytes t
  obtain ⟨N, hN⟩ : ∃ N, N = t.length := ⟨_, rfl⟩
  have hsz : (strOf t).size = N := by rw [str_size, hN]
  rw [← hN] at hb HC
  have hlen := Lib.uvarint_length64 (x := N) (by omega)
  have hwr : IntKind.u64.wrap (N : Int) = (N : Int) := IntWalk.u64_in _ (by omega)
  have HN := Lib.hid hN
  have HW := Lib.hid h
  have hn64 : N < 18446744073709551616 := by omega
  have hE : Hid (s.field num 2 (uvarint t.length ++ t) = s.field num 2 (uvarint N ++ t)) := by show _ = _; rw [hN]
  clear h hN
  go_enter Try.func40, Try.ntmps40
  go_wp2_with (first
    | (go_at_call 57; refine (put_new _ _ hn64).mono ?_; rintro e w1 ⟨A1, cap1, rfl, hB1, hb1, ha1⟩; have HB1 := Lib.hid hB1; have HBE1 := Lib.hid hb1; have HA1 := Lib.hid ha1; clear hB1 hb1 ha1)
    | (go_at_call 56
       have b2 := bytes_below w1 t
       have b3 := HBE1.out.trans (b2.mono HBE1.out.size)
       have hq := wfield_any ((HW.out.bel b3).bel ((Below.refl _ _).alloc (Nat.le_refl _) (.cells #[.slice A1 (uvarint N).length cap1, .slice (some ⟨w1.heap.size, 0, none⟩) N (grownCap w1 N 0 5)] 29))) num 2
         (pcs_two (fun k hk => ((HW.out.bel b3).lt k hk).2) _ (HB1.out.below b2 (Nat.le_refl _)) rfl (fun a ha => ⟨fun hs => by have := (HA1.out a ha).1; have := (HW.out.lt _ hs).2; omega, by have := (HA1.out a ha).2; rw [bytes_size]; omega⟩)
           (bs2 := t) (by rw [HN.out]; exact bytes_bs w1 t (by unfold maxLen; rw [← HN.out]; omega)) HN.out (fun a ha => by cases ha; exact ⟨fun hs => Nat.lt_irrefl _ (Nat.lt_of_lt_of_le (HW.out.lt _ hs).2 HBE1.out.size), by rw [bytes_size]; exact Nat.lt_succ_self _⟩)) rfl (by simp only [List.flatten_cons, List.flatten_nil, List.append_nil, List.length_append, ← HN.out]; omega)
       refine hq.mono ?_; clear hq; intro e w2 hto
       have hto2 := fits_field HW.out b3 _ hto
       obtain ⟨rfl, hrest⟩ := hto2
       have HR := Lib.hid hrest
       clear hto hrest))
  go_ret
  have q := HR.out
  simp only [List.flatten_cons, List.flatten_nil, List.append_nil] at q
  rw [hE.out]
  exact ⟨rfl, q⟩
/-- Bytes, where no frame is open. -/
theorem wbytes_any {B p : Nat} {S : Nat → Prop} {made : Bool} {s : Ws} {w : World} (h : Wr B w p S made s) (hop : s.op = []) (hb : s.raw.length ≤ 140737488351232) :
    Calls Try.prog 25 #[.pointer (some ⟨p, 0, none⟩)] w (Gives w s.raw) := by
  have HD : Hid (∀ w', w = w' → Calls Try.prog 42 #[.pointer (some ⟨p, 0, none⟩)] w' fun e w'' => e = .returned (.int .i64 0) ∧ w' = w'') := by
    rintro w' rfl
    have := wdeep_any h
    rw [hop] at this
    exact this
  obtain ⟨vb, vf, vo, ps, hat⟩ := h
  obtain ⟨_, A, cap, rfl, hB⟩ := Bs.own hat.raw
  have c1 := obj_cell hat.obj 1
  obtain ⟨n, hn⟩ : ∃ n, n = s.raw.length := ⟨_, rfl⟩
  rw [← hn] at c1
  have HCL := Lib.hid (fun w' (h : w = w') => clone_n A n cap s.raw w' hn (h ▸ hB) hb)
  have HN := Lib.hid hn
  clear hat hB hn hop hb
  go_enter Try.func25, Try.ntmps25
  go_wp2_with (first
    | (go_at_call 42; refine (HD.out _ rfl).mono ?_; rintro e w' ⟨rfl, rfl⟩)
    | (go_at_call 34; refine (HCL.out _ rfl).mono ?_; rintro e w' ⟨A2, cap2, rfl, hB2, hb2⟩))
  go_ret
  exact ⟨A2, cap2, rfl, hB2, hb2⟩
/-- .. where one is. -/
theorem wbytes_open {B p : Nat} {S : Nat → Prop} {made : Bool} {s : Ws} {w : World} (h : Wr B w p S made s) (hop : s.op ≠ []) :
    Calls Try.prog 25 #[.pointer (some ⟨p, 0, none⟩)] w fun e w' => e = .returned (.slice none 0 0) ∧ w = w' := by
  have HD := Lib.hid (wdeep_any h)
  have hl : 0 < s.op.length := by cases ho : s.op with | nil => exact absurd ho hop | cons a l => simp
  generalize s.op.length = k at *
  have g1 : decide ((0 : Int) < (k : Int)) = true := decide_eq_true (by omega)
  clear h hop
  go_enter Try.func25, Try.ntmps25
  go_wp2_with (go_at_call 42; refine HD.out.mono ?_; rintro e w' ⟨rfl, rfl⟩)
  go_ret
  exact ⟨rfl, rfl⟩
theorem wbytes_nil (w : World) : Calls Try.prog 25 #[.pointer none] w fun e w' => e = .returned (.slice none 0 0) ∧ w = w' := by
  go_enter Try.func25, Try.ntmps25
  go_wp2
  go_ret
  exact ⟨rfl, rfl⟩
end Go.Proofs.Ytalbiieagcandaa
