/- Several texts in one: FixCells, FixB, FixG. What each proves, and its conditions, stands at its own head. -/
import Derived.Test.YtpfdnggacpehdaaGreatDoorChecked
import Derived.Test.YtpfdnggacpehdaaGreatDoorPkDU1
import Derived.Test.YtpfdnggacpehdaaGreatDoorPkDU0
import Derived.WalkKit
import Derived.RowKitTokens
import Derived.Lib.Hide
import Derived.Laws.Rows
import Derived.Laws.Cover3
import Derived.Deep.LoopGhost
import Derived.ChangeKeysEq
/- Eight and four bytes as cells of an array (no program here). -/
namespace Go.Proofs.YtpfdnggacpehdaaGreatDoor
open Go.RowKit
set_option linter.unusedVariables false
set_option maxRecDepth 100000

/-- The eight cells of eight bytes. -/
def eightOf (b0 b1 b2 b3 b4 b5 b6 b7 : UInt8) : Array Value := #[.int .u8 (b0.toNat : Int), .int .u8 (b1.toNat : Int), .int .u8 (b2.toNat : Int), .int .u8 (b3.toNat : Int), .int .u8 (b4.toNat : Int), .int .u8 (b5.toNat : Int), .int .u8 (b6.toNat : Int), .int .u8 (b7.toNat : Int)]
theorem eight_bytes {bs : List UInt8} (h : bs.length = 8) : ∃ b0 b1 b2 b3 b4 b5 b6 b7 : UInt8, bs = [b0, b1, b2, b3, b4, b5, b6, b7] := by
  match bs, h with
  | [b0, b1, b2, b3, b4, b5, b6, b7], _ => exact ⟨_, _, _, _, _, _, _, _, rfl⟩
def fourOf (b0 b1 b2 b3 : UInt8) : Array Value := #[.int .u8 (b0.toNat : Int), .int .u8 (b1.toNat : Int), .int .u8 (b2.toNat : Int), .int .u8 (b3.toNat : Int)]
end Go.Proofs.YtpfdnggacpehdaaGreatDoor

/- The calls of package fix that read a number of bytes: wide, number, Get4, Get8, each with what it returns, for every input; memory that was there is as it was. -/
namespace Go.Proofs.YtpfdnggacpehdaaGreatDoor
open Go.RowKit
set_option linter.unusedVariables false
set_option maxRecDepth 100000

theorem wide_four (b0 b1 b2 b3 : UInt8) (w : World) :
    Calls Tryz.prog 150 #[.agg (fourOf b0 b1 b2 b3)] w fun e w' => e = .returned (.agg (eightOf b0 b1 b2 b3 0 0 0 0)) ∧ Below w.heap.size w w' := by
  unfold fourOf
  go_enter Tryz.func150, Tryz.ntmps150
  go_wp2
  refine bodyPost_ret (v := .agg (eightOf b0 b1 b2 b3 0 0 0 0)) ?_ rfl ⟨rfl, ((Below.refl _ _).alloc (Nat.le_refl _) _).alloc (by simp) _⟩
  have hres : Tryz.f150.results = #[.cell 2 186] := by kernel_rfl
  simp only [results, hres, eightOf]
  go_simp
/-- An element of an array by value, its elements of one cell each. -/
theorem run_index_cells {P : Program} {t e : TypeId} {n i : Nat} {cs : Array Value} {v : Value} {ti : TypeInfo} (w : World) (ht : P.underlying t = some (.array n e)) (he : P.plainKey e = true) (hi : P.info? e = some ti) (h1 : P.cellsOf e = 1)
    (hlt : i < n) (hv : cs[i]? = some v) : (Instr.index t (.agg cs) (.int .i64 (i : Int))).run P w = .ok v w := by
  have hp := run_part_plain w he hv
  have hs := run_sizeOf w hi
  have hc : (0 : Int) ≤ (i : Int) ∧ (i : Int) < (n : Int) := by omega
  simp [Instr.index, asIntOf, run_underlying ht, hs, h1, hp, hlt]
theorem index_eight {i : Nat} {cs : Array Value} {v : Value} (hlt : i < 8) (hv : cs[i]? = some v) (w : World) : (Instr.index 186 (.agg cs) (.int .i64 (i : Int))).run Tryz.prog w = .ok v w := by
  obtain ⟨i0, hi, _⟩ := info_parts info_u8
  exact run_index_cells w Tryz.underlying186 (by kernel_rfl) hi (by kernel_rfl) hlt hv
theorem or_byte (acc i c : Nat) (hi : i < 8) (ha : acc < 256 ^ i) (hc : c < 256) : bits .or .u64 (acc : Int) (IntKind.u64.wrap ((c : Int) * 2 ^ (8 * i))) = ((acc + 256 ^ i * c : Nat) : Int) := by
  have e1 : 256 ^ i = 2 ^ (8 * i) := by rw [show (256 : Nat) = 2 ^ 8 from rfl, ← Nat.pow_mul]
  have e2 : (2 : Nat) ^ (8 * i) ≤ 2 ^ 56 := Nat.pow_le_pow_right (by decide) (by omega)
  have e3 : ((2 : Int) ^ (8 * i)) = ((2 ^ (8 * i) : Nat) : Int) := by simp
  rw [e1] at ha ⊢
  rw [e3]
  have hmod : (((c : Int) * ((2 ^ (8 * i) : Nat) : Int)) % ((2 ^ (8 * i) : Nat) : Int)) = 0 := Int.mul_emod_left _ _
  have hle := Nat.mul_le_mul (show c ≤ 255 by omega) e2
  have hm : (c : Int) * ((2 ^ (8 * i) : Nat) : Int) = ((c * 2 ^ (8 * i) : Nat) : Int) := by simp
  rw [hm] at hmod ⊢
  rw [Nat.mul_comm (2 ^ (8 * i)) c]
  have hu : IntKind.u64.wrap ((c * 2 ^ (8 * i) : Nat) : Int) = ((c * 2 ^ (8 * i) : Nat) : Int) := by
    apply u64_wrap_id <;> omega
  rw [hu]
  have h := bits_join_low .u64 64 (by decide) wraps_u64 (8 * i) (acc : Int) ((c * 2 ^ (8 * i) : Nat) : Int) (by omega) (by rw [e3]; omega) (by omega) (by omega) (by rw [e3]; exact hmod) (by omega)
  rw [h]
  simp
theorem number_any (bs : List UInt8) (hl : bs.length = 8) (w : World) :
    Calls Tryz.prog 149 #[.agg (cellsOf bs).toArray] w fun e w' => e = .returned (.int .u64 (num bs : Int)) ∧ Below w.heap.size w w' := by
  obtain ⟨b0, b1, b2, b3, b4, b5, b6, b7, hb⟩ := eight_bytes hl
  have hc : (cellsOf bs).toArray = eightOf b0 b1 b2 b3 b4 b5 b6 b7 := by rw [hb]; rfl
  rw [hc]
  unfold eightOf
  have HB := Lib.hid hb
  have HL := Lib.hid hl
  clear hb hc hl
  go_enter Tryz.func149, Tryz.ntmps149
  go_wp2
  go_loop [3, 7] (fun u x => ∃ i acc : Nat, i ≤ 8 ∧ u = .int .u64 (acc : Int) ∧ x = .int .i64 (i : Int) ∧ acc < 256 ^ i ∧ Hid (acc = num (bs.take i))) (fun _ x => 8 - (intOf x).toNat)
  case atStart => exact ⟨0, 0, by omega, rfl, rfl, by decide, rfl⟩
  case round =>
    obtain ⟨i, acc, hi, rfl, rfl, ha, HA⟩ := hrel
    have HP := Lib.hid ha
    clear ha
    by_cases hlt : i < 8
    · have g1 : decide ((i : Int) < 8) = true := decide_eq_true (by omega)
      have hib : i < bs.length := by rw [HL.out]; exact hlt
      have HN := Lib.hid (num_take bs i hib)
      obtain ⟨c, hc⟩ : ∃ c : UInt8, c = bs[i] := ⟨_, rfl⟩
      have hc256 : c.toNat < 256 := c.toNat_lt
      have h1 : (#[.int .u8 (b0.toNat : Int), .int .u8 (b1.toNat : Int), .int .u8 (b2.toNat : Int), .int .u8 (b3.toNat : Int), .int .u8 (b4.toNat : Int), .int .u8 (b5.toNat : Int), .int .u8 (b6.toNat : Int), .int .u8 (b7.toNat : Int)] : Array Value)[i]? = some (.int .u8 (c.toNat : Int)) := by
        have : (cellsOf bs)[i]? = some (.int .u8 (c.toNat : Int)) := by
          rw [cellsOf, List.getElem?_map, List.getElem?_eq_getElem hib, hc]; rfl
        rw [HB.out] at this
        simpa [cellsOf] using this
      have hx := index_eight hlt h1
      have HC := Lib.hid hc
      clear hc h1
      go_wp2_with (simp only [hx])
      have ho := or_byte acc i c.toNat hlt HP.out hc256
      have hn : acc + 256 ^ i * c.toNat = num (bs.take (i + 1)) := by rw [HN.out, HA.out, HC.out]
      have hpl : num (bs.take (i + 1)) < 256 ^ (i + 1) := by
        have := num_lt (bs.take (i + 1))
        rwa [List.length_take, Nat.min_eq_left (by omega)] at this
      go_round
      case rel => exact ⟨i + 1, num (bs.take (i + 1)), by omega, by rw [ho, hn], by go_num, hpl, rfl⟩
      case measure => simp [intOf]; omega
    · have g1 : decide ((i : Int) < 8) = false := decide_eq_false (by omega)
      obtain rfl : i = 8 := by omega
      have HE : Hid (acc = num bs) := by
        show _ = _
        rw [HA.out, List.take_of_length_le (by rw [HL.out]; decide)]
      go_wp2
      go_ret
      exact ⟨ret_int' (by rw [HE.out]), (Below.refl _ _).alloc (Nat.le_refl _) _⟩
theorem number_eight (b0 b1 b2 b3 b4 b5 b6 b7 : UInt8) (w : World) :
    Calls Tryz.prog 149 #[.agg (eightOf b0 b1 b2 b3 b4 b5 b6 b7)] w fun e w' => e = .returned (.int .u64 (num [b0, b1, b2, b3, b4, b5, b6, b7] : Int)) ∧ Below w.heap.size w w' :=
  number_any [b0, b1, b2, b3, b4, b5, b6, b7] rfl w

theorem take_eight {bs : List UInt8} (h : 8 ≤ bs.length) : ∃ b0 b1 b2 b3 b4 b5 b6 b7 rest, bs = b0 :: b1 :: b2 :: b3 :: b4 :: b5 :: b6 :: b7 :: rest := by
  match bs, h with
  | b0 :: b1 :: b2 :: b3 :: b4 :: b5 :: b6 :: b7 :: rest, _ => exact ⟨_, _, _, _, _, _, _, _, _, rfl⟩
theorem take_four {bs : List UInt8} (h : 4 ≤ bs.length) : ∃ b0 b1 b2 b3 rest, bs = b0 :: b1 :: b2 :: b3 :: rest := by
  match bs, h with
  | b0 :: b1 :: b2 :: b3 :: rest, _ => exact ⟨_, _, _, _, _, rfl⟩
theorem get8_any (A : Option Addr) (cap : Nat) (bs : List UInt8) (w : World) (hb : Bs w A cap bs) :
    Calls Tryz.prog 120 #[.slice A bs.length cap] w fun e w' => e = .returned (.tuple #[.int .u64 (getN 8 bs : Int), .bool (isN 8 bs)]) ∧ Below w.heap.size w w' := by
  obtain ⟨N, hN⟩ : ∃ N, N = bs.length := ⟨_, rfl⟩
  have hle := hb.le
  have hmax := hb.max
  unfold maxLen at hmax
  by_cases h8 : bs.length < 8
  · have HG : Hid (getN 8 bs = 0) := by show _ = _; rw [getN, if_pos h8]
    have HI : Hid (isN 8 bs = false) := by show _ = _; simp [isN]; omega
    have HB := Lib.hid hb
    clear hb
    rw [← hN] at h8 hle ⊢
    clear hN
    have g1 : decide ((N : Int) < 8) = true := decide_eq_true (by omega)
    go_enter Tryz.func120, Tryz.ntmps120
    go_wp2
    go_ret2
    exact ⟨by rw [HG.out, HI.out]; rfl, Below.refl _ _⟩
  · obtain ⟨b0, b1, b2, b3, b4, b5, b6, b7, rest, hbs⟩ := take_eight (bs := bs) (by omega)
    have HG : Hid (getN 8 bs = num [b0, b1, b2, b3, b4, b5, b6, b7]) := by show _ = _; rw [getN, if_neg h8, hbs]; rfl
    have HI : Hid (isN 8 bs = true) := by show _ = _; simp [isN]; omega
    obtain ⟨b, off, rfl, c0⟩ := hb.at_ 0 b0 (by rw [hbs]; rfl)
    have c1 := hb.at_ 1 b1 (by rw [hbs]; rfl)
    have c2 := hb.at_ 2 b2 (by rw [hbs]; rfl)
    have c3 := hb.at_ 3 b3 (by rw [hbs]; rfl)
    have c4 := hb.at_ 4 b4 (by rw [hbs]; rfl)
    have c5 := hb.at_ 5 b5 (by rw [hbs]; rfl)
    have c6 := hb.at_ 6 b6 (by rw [hbs]; rfl)
    have c7 := hb.at_ 7 b7 (by rw [hbs]; rfl)
    rw [Nat.add_zero] at c0
    simp only [Option.some.injEq, Addr.mk.injEq, and_true] at c1 c2 c3 c4 c5 c6 c7
    obtain ⟨_, _, ⟨rfl, rfl⟩, c1⟩ := c1
    obtain ⟨_, _, ⟨rfl, rfl⟩, c2⟩ := c2
    obtain ⟨_, _, ⟨rfl, rfl⟩, c3⟩ := c3
    obtain ⟨_, _, ⟨rfl, rfl⟩, c4⟩ := c4
    obtain ⟨_, _, ⟨rfl, rfl⟩, c5⟩ := c5
    obtain ⟨_, _, ⟨rfl, rfl⟩, c6⟩ := c6
    obtain ⟨_, _, ⟨rfl, rfl⟩, c7⟩ := c7
    clear hb
    rw [← hN] at h8 hle ⊢
    clear hN hbs
    have hat : ∀ w : World, (Instr.arrayAt 186 (.slice (some ⟨b, off, none⟩) N cap)).run Tryz.prog w = .ok (.pointer (some ⟨b, off, none⟩)) w := fun w => run_arrayAt w 186 _ 8 _ N cap Tryz.underlying186 (by omega)
    have g1 : decide ((N : Int) < 8) = false := decide_eq_false (by omega)
    go_enter Tryz.func120, Tryz.ntmps120
    go_wp2_with (go_at_call 149; refine (number_eight b0 b1 b2 b3 b4 b5 b6 b7 _).mono ?_; rintro e w2 ⟨rfl, hb2⟩)
    go_ret2
    exact ⟨by rw [HG.out, HI.out]; rfl, hb2⟩
theorem get4_any (A : Option Addr) (cap : Nat) (bs : List UInt8) (w : World) (hb : Bs w A cap bs) :
    Calls Tryz.prog 126 #[.slice A bs.length cap] w fun e w' => e = .returned (.tuple #[.int .u32 (getN 4 bs : Int), .bool (isN 4 bs)]) ∧ Below w.heap.size w w' := by
  obtain ⟨N, hN⟩ : ∃ N, N = bs.length := ⟨_, rfl⟩
  have hle := hb.le
  have hmax := hb.max
  unfold maxLen at hmax
  by_cases h4 : bs.length < 4
  · have HG : Hid (getN 4 bs = 0) := by show _ = _; rw [getN, if_pos h4]
    have HI : Hid (isN 4 bs = false) := by show _ = _; simp [isN]; omega
    have HB := Lib.hid hb
    clear hb
    rw [← hN] at h4 hle ⊢
    clear hN
    have g1 : decide ((N : Int) < 4) = true := decide_eq_true (by omega)
    go_enter Tryz.func126, Tryz.ntmps126
    go_wp2
    go_ret2
    exact ⟨by rw [HG.out, HI.out]; rfl, Below.refl _ _⟩
  · obtain ⟨b0, b1, b2, b3, rest, hbs⟩ := take_four (bs := bs) (by omega)
    have HG : Hid (getN 4 bs = num [b0, b1, b2, b3]) := by show _ = _; rw [getN, if_neg h4, hbs]; rfl
    have HI : Hid (isN 4 bs = true) := by show _ = _; simp [isN]; omega
    obtain ⟨b, off, rfl, c0⟩ := hb.at_ 0 b0 (by rw [hbs]; rfl)
    have c1 := hb.at_ 1 b1 (by rw [hbs]; rfl)
    have c2 := hb.at_ 2 b2 (by rw [hbs]; rfl)
    have c3 := hb.at_ 3 b3 (by rw [hbs]; rfl)
    rw [Nat.add_zero] at c0
    simp only [Option.some.injEq, Addr.mk.injEq, and_true] at c1 c2 c3
    obtain ⟨_, _, ⟨rfl, rfl⟩, c1⟩ := c1
    obtain ⟨_, _, ⟨rfl, rfl⟩, c2⟩ := c2
    obtain ⟨_, _, ⟨rfl, rfl⟩, c3⟩ := c3
    clear hb
    rw [← hN] at h4 hle ⊢
    clear hN hbs
    have hat : ∀ w : World, (Instr.arrayAt 190 (.slice (some ⟨b, off, none⟩) N cap)).run Tryz.prog w = .ok (.pointer (some ⟨b, off, none⟩)) w := fun w => run_arrayAt w 190 _ 4 _ N cap Tryz.underlying190 (by omega)
    have g1 : decide ((N : Int) < 4) = false := decide_eq_false (by omega)
    go_enter Tryz.func126, Tryz.ntmps126
    have HZ : Hid (num [b0, b1, b2, b3, 0, 0, 0, 0] = num [b0, b1, b2, b3]) := num_zeros [b0, b1, b2, b3] rfl
    have hlt : num [b0, b1, b2, b3] < 4294967296 := by
      have := num_lt [b0, b1, b2, b3]
      simpa using this
    go_wp2_with (first
      | (go_at_call 150; refine (wide_four b0 b1 b2 b3 _).mono ?_; rintro e w1 ⟨rfl, hb1⟩)
      | (go_at_call 149; refine (number_eight b0 b1 b2 b3 0 0 0 0 _).mono ?_; rintro e w2 ⟨rfl, hb2⟩; rw [HZ.out]))
    go_ret2
    exact ⟨by rw [HG.out, HI.out]; rfl, bel_trans hb1 hb2⟩
theorem get8_n (A : Option Addr) (n cap : Nat) (bs : List UInt8) (w : World) (hn : n = bs.length) (hb : Bs w A cap bs) :
    Calls Tryz.prog 120 #[.slice A n cap] w fun e w' => e = .returned (.tuple #[.int .u64 (getN 8 bs : Int), .bool (isN 8 bs)]) ∧ Below w.heap.size w w' := by
  subst hn; exact get8_any A cap bs w hb
theorem get4_n (A : Option Addr) (n cap : Nat) (bs : List UInt8) (w : World) (hn : n = bs.length) (hb : Bs w A cap bs) :
    Calls Tryz.prog 126 #[.slice A n cap] w fun e w' => e = .returned (.tuple #[.int .u32 (getN 4 bs : Int), .bool (isN 4 bs)]) ∧ Below w.heap.size w w' := by
  subst hn; exact get4_any A cap bs w hb
end Go.Proofs.YtpfdnggacpehdaaGreatDoor

/- The document's answer that reads a number of four or eight bytes (Get): what it returns, for every input; the world is as it was. -/
namespace Go.Proofs.YtpfdnggacpehdaaGreatDoor
open Go.RowKit
set_option linter.unusedVariables false
set_option maxRecDepth 100000

theorem num_lt8 (k : Nat) (bs : List UInt8) (i : Nat) (hk : k ≤ 8) : num ((bs.take k).drop i) < 256 ^ (8 - i) := by
  have h := num_lt ((bs.take k).drop i)
  have h2 : (256 : Nat) ^ ((bs.take k).drop i).length ≤ 256 ^ (8 - i) := Nat.pow_le_pow_right (by decide) (by simp; omega)
  omega
theorem num_small (k : Nat) (bs : List UInt8) (i : Nat) (hk : k ≤ 8) (h1 : 1 ≤ i) : num ((bs.take k).drop i) < 72057594037927936 := by
  have h := num_lt8 k bs i hk
  have h2 : (256 : Nat) ^ (8 - i) ≤ 256 ^ 7 := Nat.pow_le_pow_right (by decide) (by omega)
  omega
theorem fget_any (A : Option Addr) (cap k : Nat) (bs : List UInt8) (w : World) (hb : Bs w A cap bs) (hk : k ≤ 8) (hk1 : 1 ≤ k) :
    Calls Tryz.prog 89 #[.slice A bs.length cap, .int .i64 (k : Int)] w fun e w' => e = .returned (.tuple #[.int .u64 (getN k bs : Int), .bool (isN k bs)]) ∧ w = w' := by
  obtain ⟨N, hN⟩ : ∃ N, N = bs.length := ⟨_, rfl⟩
  have hle := hb.le
  have hmax := hb.max
  unfold maxLen at hmax
  have HB := Lib.hid hb
  clear hb
  by_cases h8 : bs.length < k
  · have HG : Hid (getN k bs = 0) := by show _ = _; rw [getN, if_pos h8]
    have HI : Hid (isN k bs = false) := by show _ = _; simp [isN]; omega
    rw [← hN] at h8 hle ⊢
    clear hN
    have g1 : decide ((N : Int) < (k : Int)) = true := decide_eq_true (by omega)
    go_enter Tryz.func89, Tryz.ntmps89
    go_wp2
    go_ret2
    exact ⟨by rw [HG.out, HI.out]; rfl, rfl⟩
  · have HG : Hid (getN k bs = num (bs.take k)) := by show _ = _; rw [getN, if_neg h8]
    have HI : Hid (isN k bs = true) := by show _ = _; simp [isN]; omega
    have HL : Hid (bs.length = N) := hN.symm
    rw [← hN] at h8 hle ⊢
    clear hN
    have g1 : decide ((N : Int) < (k : Int)) = false := decide_eq_false (by omega)
    go_enter Tryz.func89, Tryz.ntmps89
    go_wp2
    go_loop [6, 7] (fun u x => ∃ i acc : Nat, i ≤ k ∧ u = .int .u64 (acc : Int) ∧ x = .int .i64 ((i : Int) - 1) ∧ Hid (acc = num ((bs.take k).drop i))) (fun _ x => (intOf x + 1).toNat)
    case atStart => exact ⟨k, 0, Nat.le_refl _, rfl, by go_num, by show _ = _; rw [List.drop_eq_nil_of_le (by simp; omega)]; rfl⟩
    case round =>
      obtain ⟨i, acc, hi, rfl, rfl, HA⟩ := hrel
      by_cases hlt : 1 ≤ i
      · have g2 : decide ((0 : Int) ≤ (i : Int) - 1) = true := decide_eq_true (by omega)
        have hib : i - 1 < (bs.take k).length := by have := HL.out; simp; omega
        have hs := num_small k bs i hk hlt
        rw [← HA.out] at hs
        obtain ⟨j, rfl⟩ : ∃ j, i = j + 1 := ⟨i - 1, by omega⟩
        have HN := Lib.hid (num_drop (bs.take k) j hib)
        have hjb : j < bs.length := by have := HL.out; omega
        obtain ⟨b, off, rfl, hcell⟩ := HB.out.lt hjb
        have hget : (bs.take k)[j] = bs[j] := List.getElem_take
        obtain ⟨c, hc⟩ : ∃ c : UInt8, c = bs[j] := ⟨_, rfl⟩
        rw [← hc] at hcell hget
        have HC := Lib.hid hget
        have hc256 : c.toNat < 256 := c.toNat_lt
        clear hc hget
        have e1 : ((j + 1 : Nat) : Int) - 1 = (j : Int) := by omega
        rw [e1]
        have g3 : decide ((0 : Int) ≤ (j : Int)) = true := decide_eq_true (by omega)
        have hjN : j < N := by omega
        clear g2 e1
        have HQ : Hid (acc * 256 + c.toNat = num ((bs.take k).drop j)) := by
          show _ = _
          rw [HN.out, HC.out, HA.out]; omega
        go_wp2
        go_round
        case rel => exact ⟨j, acc * 256 + c.toNat, by omega, by go_num, by go_num, HQ.out⟩
        case measure => simp [intOf]
      · obtain rfl : i = 0 := by omega
        have HE : Hid (acc = num (bs.take k)) := HA.out
        go_wp2
        go_ret2
        exact ⟨by rw [HG.out, HI.out, HE.out]; rfl, rfl⟩
theorem fget_n (A : Option Addr) (n cap k : Nat) (bs : List UInt8) (w : World) (hn : n = bs.length) (hb : Bs w A cap bs) (hk : k ≤ 8) (hk1 : 1 ≤ k) :
    Calls Tryz.prog 89 #[.slice A n cap, .int .i64 (k : Int)] w fun e w' => e = .returned (.tuple #[.int .u64 (getN k bs : Int), .bool (isN k bs)]) ∧ w = w' := by
  subst hn; exact fget_any A cap k bs w hb hk hk1
end Go.Proofs.YtpfdnggacpehdaaGreatDoor
