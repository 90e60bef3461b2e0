/- Several texts in one: FixCells, FixA. What each proves, and its conditions, stands at its own head. -/
import Derived.Test.YtalbiieagcandaaChecked
import Derived.Test.YtalbiieagcandaaPkR11
import Derived.Test.YtalbiieagcandaaPkR0
import Derived.Test.YtalbiieagcandaaPkR1
import Derived.WalkKit
import Derived.RowKitTokens
import Derived.Lib.Hide
import Derived.Laws.Rows
import Derived.Laws.Cover3
import Derived.Deep.LoopGhost
/- Eight and four bytes as cells of an array (no program here). -/
namespace Go.Proofs.Ytalbiieagcandaa
open Go.RowKit
set_option linter.unusedVariables false
set_option maxRecDepth 100000

/-- The eight cells of eight bytes. -/
def eightOf (b0 b1 b2 b3 b4 b5 b6 b7 : UInt8) : Array Value := #[.int .u8 (b0.toNat : Int), .int .u8 (b1.toNat : Int), .int .u8 (b2.toNat : Int), .int .u8 (b3.toNat : Int), .int .u8 (b4.toNat : Int), .int .u8 (b5.toNat : Int), .int .u8 (b6.toNat : Int), .int .u8 (b7.toNat : Int)]
theorem eight_bytes {bs : List UInt8} (h : bs.length = 8) : ∃ b0 b1 b2 b3 b4 b5 b6 b7 : UInt8, bs = [b0, b1, b2, b3, b4, b5, b6, b7] := by
  match bs, h with
  | [b0, b1, b2, b3, b4, b5, b6, b7], _ => exact ⟨_, _, _, _, _, _, _, _, rfl⟩
theorem four_bytes {bs : List UInt8} (h : bs.length = 4) : ∃ b0 b1 b2 b3 : UInt8, bs = [b0, b1, b2, b3] := by
  match bs, h with
  | [b0, b1, b2, b3], _ => exact ⟨_, _, _, _, rfl⟩

def fourOf (b0 b1 b2 b3 : UInt8) : Array Value := #[.int .u8 (b0.toNat : Int), .int .u8 (b1.toNat : Int), .int .u8 (b2.toNat : Int), .int .u8 (b3.toNat : Int)]
end Go.Proofs.Ytalbiieagcandaa

/- The calls of package fix that lay a number's bytes: laid, low, Put4, Put8, each with what it returns, for every input; memory that was there is as it was. -/
namespace Go.Proofs.Ytalbiieagcandaa
open Go.RowKit
set_option linter.unusedVariables false
set_option maxRecDepth 100000

/-- The row that laid fills: the first i bytes of n, and zeros. -/
def rowN (n i : Nat) : Array Value := (cellsOf (le i n ++ List.replicate (8 - i) 0)).toArray
theorem rowN_zero (n : Nat) : rowN n 0 = #[.int .u8 0, .int .u8 0, .int .u8 0, .int .u8 0, .int .u8 0, .int .u8 0, .int .u8 0, .int .u8 0] := rfl

theorem rowN_at (n i : Nat) (hi : i < 8) : (rowN n i)[i]? = some (.int .u8 0) := by
  have hl := le_length i n
  rw [rowN, List.getElem?_toArray, cellsOf, List.getElem?_map, List.getElem?_append_right (by omega), hl, Nat.sub_self, show 8 - i = (8 - (i + 1)) + 1 by omega]
  rfl
theorem rowN_set (n i : Nat) (hi : i < 8) (x : Int) (hx : x = ((n / 256 ^ i % 256 : Nat) : Int)) : (rowN n i).setIfInBounds i (.int .u8 x) = rowN n (i + 1) := by
  have hl := le_length i n
  have hr : List.replicate (8 - i) (0 : UInt8) = 0 :: List.replicate (8 - (i + 1)) 0 := by
    rw [show 8 - i = (8 - (i + 1)) + 1 by omega]; rfl
  have hb : (n / 256 ^ i % 256).toUInt8.toNat = n / 256 ^ i % 256 := by simp [Nat.toUInt8]
  rw [rowN, rowN, hr, le_snoc, List.setIfInBounds_toArray]
  congr 1
  rw [cellsOf_append, cellsOf_append, cellsOf_append, List.set_append_right _ _ (by rw [cellsOf_length]; omega), cellsOf_length, hl, Nat.sub_self, List.append_assoc]
  simp only [cellsOf, List.map_cons, List.set_cons_zero, List.map_nil, List.cons_append, List.nil_append, hb, hx]
theorem pow_byte (n i : Nat) : (n : Int) / 2 ^ (8 * i) % 256 = ((n / 256 ^ i % 256 : Nat) : Int) := by
  rw [show (256 : Nat) = 2 ^ 8 from rfl, ← Nat.pow_mul]
  simp
theorem rowN_full (n : Nat) (b0 b1 b2 b3 b4 b5 b6 b7 : UInt8) (h : le 8 n = [b0, b1, b2, b3, b4, b5, b6, b7]) :
    rowN n 8 = #[.int .u8 (b0.toNat : Int), .int .u8 (b1.toNat : Int), .int .u8 (b2.toNat : Int), .int .u8 (b3.toNat : Int), .int .u8 (b4.toNat : Int), .int .u8 (b5.toNat : Int), .int .u8 (b6.toNat : Int), .int .u8 (b7.toNat : Int)] := by
  rw [rowN, h]; rfl

theorem laid_eight (n : Nat) (b0 b1 b2 b3 b4 b5 b6 b7 : UInt8) (hb : le 8 n = [b0, b1, b2, b3, b4, b5, b6, b7]) (w : World) (h : n < 18446744073709551616) :
    Calls Try.prog 75 #[.int .u64 (n : Int)] w fun e w' => e = .returned (.agg (eightOf b0 b1 b2 b3 b4 b5 b6 b7)) ∧ Below w.heap.size w w' := by
  have HS := Lib.hid (rowN_set n)
  have HF := Lib.hid (rowN_full n b0 b1 b2 b3 b4 b5 b6 b7 hb)
  clear hb
  go_enter Try.func75, Try.ntmps75
  go_wp2
  go_loopw [5] (fun x wr => ∃ i : Nat, i ≤ 8 ∧ x = .int .i64 (i : Int) ∧ wr = (w.alloc (.cells (rowN 0 0) 99)).alloc (.cells (rowN n i) 99)) (fun x _ => 8 - (intOf x).toNat)
  case atStart => exact ⟨0, by omega, rfl, rfl⟩
  case round =>
    obtain ⟨i, hi, rfl, rfl⟩ := hrel
    by_cases hlt : i < 8
    · have g1 : decide ((i : Int) < 8) = true := decide_eq_true (by omega)
      have h1 := rowN_at n i hlt
      go_wp2
      go_roundw
      case rel => exact ⟨i + 1, by omega, by go_num, by rw [HS.out i hlt _ (pow_byte n i)]⟩
      case measure => simp [intOf]; omega
    · have g1 : decide ((i : Int) < 8) = false := decide_eq_false (by omega)
      obtain rfl : i = 8 := by omega
      rw [HF.out, rowN_zero]
      clear HF HS
      go_wp2
      refine bodyPost_ret (v := .agg (eightOf b0 b1 b2 b3 b4 b5 b6 b7)) ?_ rfl ⟨rfl, ((Below.refl _ _).alloc (Nat.le_refl _) _).alloc (by simp) _⟩
      have hres : Try.f75.results = #[.cell 2 99] := by kernel_rfl
      simp only [results, hres, eightOf]
      go_simp
theorem laid_any (n : Nat) (w : World) (h : n < 18446744073709551616) :
    Calls Try.prog 75 #[.int .u64 (n : Int)] w fun e w' => e = .returned (.agg (cellsOf (le 8 n)).toArray) ∧ Below w.heap.size w w' := by
  obtain ⟨b0, b1, b2, b3, b4, b5, b6, b7, hb⟩ := eight_bytes (le_length 8 n)
  have := laid_eight n b0 b1 b2 b3 b4 b5 b6 b7 hb w h
  rw [hb]
  exact this
theorem low_eight (b0 b1 b2 b3 b4 b5 b6 b7 : UInt8) (w : World) :
    Calls Try.prog 76 #[.agg (eightOf b0 b1 b2 b3 b4 b5 b6 b7)] w fun e w' => e = .returned (.agg (fourOf b0 b1 b2 b3)) ∧ Below w.heap.size w w' := by
  have hat : ∀ (w : World) (b : Nat), (Instr.arrayAt 102 (.slice (some ⟨b, 0, none⟩) 8 8)).run Try.prog w = .ok (.pointer (some ⟨b, 0, none⟩)) w := fun w b => run_arrayAt w 102 _ 4 _ 8 8 Try.underlying102 (by decide)
  unfold eightOf
  go_enter Try.func76, Try.ntmps76
  go_wp2_with (simp only [hat])
  refine bodyPost_ret (v := .agg (fourOf b0 b1 b2 b3)) ?_ rfl ⟨rfl, ((Below.refl _ _).alloc (Nat.le_refl _) _).alloc (by simp) _⟩
  have hres : Try.f76.results = #[.cell 2 102] := by kernel_rfl
  simp only [results, hres, fourOf]
  go_simp
theorem le_four (n : Nat) (b0 b1 b2 b3 b4 b5 b6 b7 : UInt8) (hb : le 8 n = [b0, b1, b2, b3, b4, b5, b6, b7]) : le 4 n = [b0, b1, b2, b3] := by
  have h := le_add 4 4 n
  rw [hb] at h
  have h2 := congrArg (List.take 4) h
  rw [List.take_append_of_le_length (l₁ := le 4 n) (by rw [le_length]; decide), List.take_of_length_le (l := le 4 n) (by rw [le_length]; decide)] at h2
  exact h2.symm
theorem put8_new (n : Nat) (w : World) (h : n < 18446744073709551616) :
    Calls Try.prog 58 #[.int .u64 (n : Int)] w (GivesN w (le 8 n)) := by
  obtain ⟨b0, b1, b2, b3, b4, b5, b6, b7, hb⟩ := eight_bytes (le_length 8 n)
  have HL := Lib.hid (fun w => laid_eight n b0 b1 b2 b3 b4 b5 b6 b7 hb w h)
  rw [hb]
  clear hb
  go_enter Try.func58, Try.ntmps58
  go_wp2_with (go_at_call 75; refine (HL.out _).mono ?_; rintro e w1 ⟨rfl, hb1⟩; unfold eightOf)
  go_ret
  exact ⟨_, _, rfl, Bs.lit w1 _ _ [b0, b1, b2, b3, b4, b5, b6, b7] rfl (by simp [maxLen]), hb1.alloc hb1.size _, fun a ha => by cases ha; exact ⟨hb1.size, by simp⟩⟩
theorem put4_new (n : Nat) (w : World) (h : n < 4294967296) :
    Calls Try.prog 59 #[.int .u32 (n : Int)] w (GivesN w (le 4 n)) := by
  obtain ⟨b0, b1, b2, b3, b4, b5, b6, b7, hb⟩ := eight_bytes (le_length 8 n)
  have HL := Lib.hid (fun w => laid_eight n b0 b1 b2 b3 b4 b5 b6 b7 hb w (by omega))
  rw [le_four n b0 b1 b2 b3 b4 b5 b6 b7 hb]
  clear hb
  go_enter Try.func59, Try.ntmps59
  go_wp2_with (first
    | (go_at_call 75; refine (HL.out _).mono ?_; rintro e w1 ⟨rfl, hb1⟩)
    | (go_at_call 76; refine (low_eight b0 b1 b2 b3 b4 b5 b6 b7 _).mono ?_; rintro e w2 ⟨rfl, hb2⟩; unfold fourOf))
  go_ret
  exact ⟨_, _, rfl, Bs.lit w2 _ _ [b0, b1, b2, b3] rfl (by simp [maxLen]), (bel_trans hb1 hb2).alloc (bel_trans hb1 hb2).size _, fun a ha => by cases ha; exact ⟨(bel_trans hb1 hb2).size, by simp⟩⟩
theorem put8_any (n : Nat) (w : World) (h : n < 18446744073709551616) :
    Calls Try.prog 58 #[.int .u64 (n : Int)] w (Gives w (le 8 n)) := (put8_new n w h).mono fun _ _ h => h.gives
theorem put4_any (n : Nat) (w : World) (h : n < 4294967296) :
    Calls Try.prog 59 #[.int .u32 (n : Int)] w (Gives w (le 4 n)) := (put4_new n w h).mono fun _ _ h => h.gives
end Go.Proofs.Ytalbiieagcandaa
