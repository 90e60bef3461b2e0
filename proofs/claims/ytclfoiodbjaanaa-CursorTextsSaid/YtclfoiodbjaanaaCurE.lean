/- What Varint, Fixed4, Fixed8, Text answer, and what they leave. -/
import Derived.Test.YtclfoiodbjaanaaCurD
namespace Go.Proofs.Ytclfoiodbjaanaa
open Go.RowKit
set_option linter.unusedVariables false
set_option maxRecDepth 100000

theorem enters_varint : Enters Try.prog 33 := enters_of Try.func33 (by kernel_rfl) rfl
theorem varint_cur {W w : World} {p g : Nat} {bs : List UInt8} {s : St} (h : Cur W w p g bs s) :
    Calls Try.prog 15 #[.pointer (some ⟨p, 0, none⟩)] w (CurTo W w p g bs (s.rd tVar 0 bs).2 (.int .u64 (((s.rd tVar 0 bs).1 : Nat) : Int))) := by
  have hR := Lib.hid (rd_uint64 h tVar (tVar_le) 33 enters_varint (fun A n cap b w hn hb => (get_n A n cap b w hn hb).mono fun _ _ ⟨he, hw⟩ => ⟨he, hw ▸ Below.refl _ _⟩))
  clear h
  go_enter Try.func15, Try.ntmps15
  go_wp2_with (go_at_call 32; refine hR.out.mono ?_; rintro e w' ⟨rfl, g', hg', hc, ho⟩)
  go_ret
  exact ⟨rfl, g', hg', hc, ho⟩
theorem enters_four : Enters Try.prog 42 := enters_of Try.func42 (by kernel_rfl) rfl
theorem four_cur {W w : World} {p g : Nat} {bs : List UInt8} {s : St} (h : Cur W w p g bs s) :
    Calls Try.prog 22 #[.pointer (some ⟨p, 0, none⟩)] w (CurTo W w p g bs (s.rd (tFix 4) 0 bs).2 (.int .u32 (((s.rd (tFix 4) 0 bs).1 : Nat) : Int))) := by
  have hR := Lib.hid (rd_uint32 h (tFix 4) (tFix_le 4) 42 enters_four (fun A n cap b w hn hb => four_lit A n cap b w hn hb))
  clear h
  go_enter Try.func22, Try.ntmps22
  go_wp2_with (go_at_call 41; refine hR.out.mono ?_; rintro e w' ⟨rfl, g', hg', hc, ho⟩)
  go_ret
  exact ⟨rfl, g', hg', hc, ho⟩
theorem enters_eight : Enters Try.prog 46 := enters_of Try.func46 (by kernel_rfl) rfl
theorem eight_cur {W w : World} {p g : Nat} {bs : List UInt8} {s : St} (h : Cur W w p g bs s) :
    Calls Try.prog 24 #[.pointer (some ⟨p, 0, none⟩)] w (CurTo W w p g bs (s.rd (tFix 8) 0 bs).2 (.int .u64 (((s.rd (tFix 8) 0 bs).1 : Nat) : Int))) := by
  have hR := Lib.hid (rd_uint64 h (tFix 8) (tFix_le 8) 46 enters_eight (fun A n cap b w hn hb => eight_lit A n cap b w hn hb))
  clear h
  go_enter Try.func24, Try.ntmps24
  go_wp2_with (go_at_call 32; refine hR.out.mono ?_; rintro e w' ⟨rfl, g', hg', hc, ho⟩)
  go_ret
  exact ⟨rfl, g', hg', hc, ho⟩
theorem enters_text : Enters Try.prog 35 := enters_of Try.func35 (by kernel_rfl) rfl
theorem text_cur {W w : World} {p g : Nat} {bs : List UInt8} {s : St} (h : Cur W w p g bs s) :
    Calls Try.prog 16 #[.pointer (some ⟨p, 0, none⟩)] w (CurTo W w p g bs (s.rd tText [] bs).2 (.string (strOf (s.rd tText [] bs).1))) := by
  have hR := Lib.hid (rd_string h tText (tText_le) 35 enters_text (fun A n cap b w hn hb => (text_lit A n cap b w hn hb).mono fun _ _ ⟨he, hw⟩ => ⟨he, hw ▸ Below.refl _ _⟩))
  clear h
  go_enter Try.func16, Try.ntmps16
  go_wp2_with (go_at_call 34; refine hR.out.mono ?_; rintro e w' ⟨rfl, g', hg', hc, ho⟩)
  go_ret
  exact ⟨rfl, g', hg', hc, ho⟩
end Go.Proofs.Ytclfoiodbjaanaa
