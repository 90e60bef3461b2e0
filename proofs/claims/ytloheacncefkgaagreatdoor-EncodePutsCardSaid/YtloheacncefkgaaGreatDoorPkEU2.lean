/- Several texts in one: FixCells, FixA, Obj, Touch. What each proves, and its conditions, stands at its own head. -/
import Derived.Test.YtloheacncefkgaaGreatDoorChecked
import Derived.Test.YtloheacncefkgaaGreatDoorPkEU1
import Derived.Test.YtloheacncefkgaaGreatDoorPkEU0
import Derived.WalkKit
import Derived.RowKitTokens
import Derived.Lib.Hide
import Derived.Laws.Rows
import Derived.Laws.Cover3
import Derived.Deep.LoopGhost
import Derived.OneCell
/- Eight and four bytes as cells of an array (no program here). -/
namespace Go.Proofs.YtloheacncefkgaaGreatDoor
open Go.RowKit
set_option linter.unusedVariables false
set_option maxRecDepth 100000

/-- The eight cells of eight bytes. -/
def eightOf (b0 b1 b2 b3 b4 b5 b6 b7 : UInt8) : Array Value := #[.int .u8 (b0.toNat : Int), .int .u8 (b1.toNat : Int), .int .u8 (b2.toNat : Int), .int .u8 (b3.toNat : Int), .int .u8 (b4.toNat : Int), .int .u8 (b5.toNat : Int), .int .u8 (b6.toNat : Int), .int .u8 (b7.toNat : Int)]
theorem eight_bytes {bs : List UInt8} (h : bs.length = 8) : ∃ b0 b1 b2 b3 b4 b5 b6 b7 : UInt8, bs = [b0, b1, b2, b3, b4, b5, b6, b7] := by
 match bs, h with
 | [b0, b1, b2, b3, b4, b5, b6, b7], _ => exact ⟨_, _, _, _, _, _, _, _, rfl⟩
def fourOf (b0 b1 b2 b3 : UInt8) : Array Value := #[.int .u8 (b0.toNat : Int), .int .u8 (b1.toNat : Int), .int .u8 (b2.toNat : Int), .int .u8 (b3.toNat : Int)]
end Go.Proofs.YtloheacncefkgaaGreatDoor

/- The calls of package fix that lay a number's bytes: laid, low, Put4, Put8, each with what it returns, for every input; memory that was there is as it was. -/
namespace Go.Proofs.YtloheacncefkgaaGreatDoor
open Go.RowKit
set_option linter.unusedVariables false
set_option maxRecDepth 100000

/-- The row that laid fills: the first i bytes of n, and zeros. -/
def rowN (n i : Nat) : Array Value := (cellsOf (le i n ++ List.replicate (8 - i) 0)).toArray
theorem rowN_zero (n : Nat) : rowN n 0 = #[.int .u8 0, .int .u8 0, .int .u8 0, .int .u8 0, .int .u8 0, .int .u8 0, .int .u8 0, .int .u8 0] := rfl

theorem rowN_at (n i : Nat) (hi : i < 8) : (rowN n i)[i]? = some (.int .u8 0) := by
 have hl := le_length i n
 rw [rowN, List.getElem?_toArray, cellsOf, List.getElem?_map, List.getElem?_append_right (by omega), hl, Nat.sub_self, show 8 - i = (8 - (i + 1)) + 1 by omega]
 rfl
theorem rowN_set (n i : Nat) (hi : i < 8) (x : Int) (hx : x = ((n / 256 ^ i % 256 : Nat) : Int)) : (rowN n i).setIfInBounds i (.int .u8 x) = rowN n (i + 1) := by
 have hl := le_length i n
 have hr : List.replicate (8 - i) (0 : UInt8) = 0 :: List.replicate (8 - (i + 1)) 0 := by
  rw [show 8 - i = (8 - (i + 1)) + 1 by omega]; rfl
 have hb : (n / 256 ^ i % 256).toUInt8.toNat = n / 256 ^ i % 256 := by simp [Nat.toUInt8]
 rw [rowN, rowN, hr, le_snoc, List.setIfInBounds_toArray]
 congr 1
 rw [cellsOf_append, cellsOf_append, cellsOf_append, List.set_append_right _ _ (by rw [cellsOf_length]; omega), cellsOf_length, hl, Nat.sub_self, List.append_assoc]
 simp only [cellsOf, List.map_cons, List.set_cons_zero, List.map_nil, List.cons_append, List.nil_append, hb, hx]
theorem pow_byte (n i : Nat) : (n : Int) / 2 ^ (8 * i) % 256 = ((n / 256 ^ i % 256 : Nat) : Int) := by
 rw [show (256 : Nat) = 2 ^ 8 from rfl, ← Nat.pow_mul]
 simp
theorem rowN_full (n : Nat) (b0 b1 b2 b3 b4 b5 b6 b7 : UInt8) (h : le 8 n = [b0, b1, b2, b3, b4, b5, b6, b7]) :
 rowN n 8 = #[.int .u8 (b0.toNat : Int), .int .u8 (b1.toNat : Int), .int .u8 (b2.toNat : Int), .int .u8 (b3.toNat : Int), .int .u8 (b4.toNat : Int), .int .u8 (b5.toNat : Int), .int .u8 (b6.toNat : Int), .int .u8 (b7.toNat : Int)] := by
 rw [rowN, h]; rfl

theorem laid_eight (n : Nat) (b0 b1 b2 b3 b4 b5 b6 b7 : UInt8) (hb : le 8 n = [b0, b1, b2, b3, b4, b5, b6, b7]) (w : World) (h : n < 18446744073709551616) :
 Calls Tryz.prog 130 #[.int .u64 (n : Int)] w fun e w' => e = .returned (.agg (eightOf b0 b1 b2 b3 b4 b5 b6 b7)) ∧ Below w.heap.size w w' := by
 have HS := Lib.hid (rowN_set n)
 have HF := Lib.hid (rowN_full n b0 b1 b2 b3 b4 b5 b6 b7 hb)
 clear hb
 go_enter Tryz.func130, Tryz.ntmps130
 go_wp2
 go_loopw [5] (fun x wr => ∃ i : Nat, i ≤ 8 ∧ x = .int .i64 (i : Int) ∧ wr = (w.alloc (.cells (rowN 0 0) 150)).alloc (.cells (rowN n i) 150)) (fun x _ => 8 - (intOf x).toNat)
 case atStart => exact ⟨0, by omega, rfl, rfl⟩
 case round =>
  obtain ⟨i, hi, rfl, rfl⟩ := hrel
  by_cases hlt : i < 8
  ·have g1 : decide ((i : Int) < 8) = true := decide_eq_true (by omega)
   have h1 := rowN_at n i hlt
   go_wp2
   go_roundw
   case rel => exact ⟨i + 1, by omega, by go_num, by rw [HS.out i hlt _ (pow_byte n i)]⟩
   case measure => simp [intOf]; omega
  ·have g1 : decide ((i : Int) < 8) = false := decide_eq_false (by omega)
   obtain rfl : i = 8 := by omega
   rw [HF.out, rowN_zero]
   clear HF HS
   go_wp2
   refine bodyPost_ret (v := .agg (eightOf b0 b1 b2 b3 b4 b5 b6 b7)) ?_ rfl ⟨rfl, ((Below.refl _ _).alloc (Nat.le_refl _) _).alloc (by simp) _⟩
   have hres : Tryz.f130.results = #[.cell 2 150] := by kernel_rfl
   simp only [results, hres, eightOf]
   go_simp
theorem low_eight (b0 b1 b2 b3 b4 b5 b6 b7 : UInt8) (w : World) :
 Calls Tryz.prog 131 #[.agg (eightOf b0 b1 b2 b3 b4 b5 b6 b7)] w fun e w' => e = .returned (.agg (fourOf b0 b1 b2 b3)) ∧ Below w.heap.size w w' := by
 have hat : ∀ (w : World) (b : Nat), (Instr.arrayAt 148 (.slice (some ⟨b, 0, none⟩) 8 8)).run Tryz.prog w = .ok (.pointer (some ⟨b, 0, none⟩)) w := fun w b => run_arrayAt w 148 _ 4 _ 8 8 Tryz.underlying148 (by decide)
 unfold eightOf
 go_enter Tryz.func131, Tryz.ntmps131
 go_wp2_with (simp only [hat])
 refine bodyPost_ret (v := .agg (fourOf b0 b1 b2 b3)) ?_ rfl ⟨rfl, ((Below.refl _ _).alloc (Nat.le_refl _) _).alloc (by simp) _⟩
 have hres : Tryz.f131.results = #[.cell 2 148] := by kernel_rfl
 simp only [results, hres, fourOf]
 go_simp
theorem le_four (n : Nat) (b0 b1 b2 b3 b4 b5 b6 b7 : UInt8) (hb : le 8 n = [b0, b1, b2, b3, b4, b5, b6, b7]) : le 4 n = [b0, b1, b2, b3] := by
 have h := le_add 4 4 n
 rw [hb] at h
 have h2 := congrArg (List.take 4) h
 rw [List.take_append_of_le_length (l₁ := le 4 n) (by rw [le_length]; decide), List.take_of_length_le (l := le 4 n) (by rw [le_length]; decide)] at h2
 exact h2.symm
theorem put8_new (n : Nat) (w : World) (h : n < 18446744073709551616) :
 Calls Tryz.prog 93 #[.int .u64 (n : Int)] w (GivesN w (le 8 n)) := by
 obtain ⟨b0, b1, b2, b3, b4, b5, b6, b7, hb⟩ := eight_bytes (le_length 8 n)
 have HL := Lib.hid (fun w => laid_eight n b0 b1 b2 b3 b4 b5 b6 b7 hb w h)
 rw [hb]
 clear hb
 go_enter Tryz.func93, Tryz.ntmps93
 go_wp2_with (go_at_call 130; refine (HL.out _).mono ?_; rintro e w1 ⟨rfl, hb1⟩; unfold eightOf)
 go_ret
 exact ⟨_, _, rfl, Bs.lit w1 _ _ [b0, b1, b2, b3, b4, b5, b6, b7] rfl (by simp [maxLen]), hb1.alloc hb1.size _, fun a ha => by cases ha; exact ⟨hb1.size, by simp⟩⟩
theorem put4_new (n : Nat) (w : World) (h : n < 4294967296) :
 Calls Tryz.prog 92 #[.int .u32 (n : Int)] w (GivesN w (le 4 n)) := by
 obtain ⟨b0, b1, b2, b3, b4, b5, b6, b7, hb⟩ := eight_bytes (le_length 8 n)
 have HL := Lib.hid (fun w => laid_eight n b0 b1 b2 b3 b4 b5 b6 b7 hb w (by omega))
 rw [le_four n b0 b1 b2 b3 b4 b5 b6 b7 hb]
 clear hb
 go_enter Tryz.func92, Tryz.ntmps92
 go_wp2_with (first
  | (go_at_call 130; refine (HL.out _).mono ?_; rintro e w1 ⟨rfl, hb1⟩)
  | (go_at_call 131; refine (low_eight b0 b1 b2 b3 b4 b5 b6 b7 _).mono ?_; rintro e w2 ⟨rfl, hb2⟩; unfold fourOf))
 go_ret
 exact ⟨_, _, rfl, Bs.lit w2 _ _ [b0, b1, b2, b3] rfl (by simp [maxLen]), (bel_trans hb1 hb2).alloc (bel_trans hb1 hb2).size _, fun a ha => by cases ha; exact ⟨(bel_trans hb1 hb2).size, by simp⟩⟩
end Go.Proofs.YtloheacncefkgaaGreatDoor

/- Words for what the call made and writes to (no program here): a block of cells at its number; what is left as it was but for two blocks. Conditions: none but those that each theorem names. -/
namespace Go.Proofs.YtloheacncefkgaaGreatDoor
open Go.RowKit

section
variable {w : World} {p : Nat} {cs : Array Value} {t : TypeId}
theorem obj_cell (h : w.heap[p]? = some (.cells cs t (0, 0))) (j : Nat) : w.cell? ⟨p, j, none⟩ = cs[j]? := cell_of_row w p j cs t (0, 0) h
theorem obj_free (h : w.heap[p]? = some (.cells cs t (0, 0))) (j : Nat) : w.frozen? ⟨p, j, none⟩ = false := by simp [World.frozen?, h]
theorem obj_set (h : w.heap[p]? = some (.cells cs t (0, 0))) (j : Nat) (u : Value) : (w.setCell ⟨p, j, none⟩ u).heap[p]? = some (.cells (cs.setIfInBounds j u) t (0, 0)) := by
 obtain ⟨hlt, hk⟩ := Array.getElem?_eq_some_iff.1 h
 show (w.heap.modify p _)[p]? = _
 rw [Array.getElem?_eq_getElem (by rw [Array.size_modify]; exact hlt), Array.getElem_modify_self, hk]
 simp
theorem obj_lt (h : w.heap[p]? = some (.cells cs t (0, 0))) : p < w.heap.size := lt_of_block h
end

/-- But for the blocks p and g, what was there is as it was. -/
structure Only (p g : Nat) (w w' : World) : Prop where
 os : w'.os = w.os
 tape : w'.tape = w.tape
 output : w'.output = w.output
 size : w.heap.size ≤ w'.heap.size
 block : ∀ k, k < w.heap.size → k ≠ p → k ≠ g → w'.heap[k]? = w.heap[k]?
section
variable {p g : Nat} {a b c w w' : World}
theorem Only.refl (p g : Nat) (w : World) : Only p g w w := ⟨rfl, rfl, rfl, Nat.le_refl _, fun _ _ _ _ => rfl⟩
theorem Only.trans (h : Only p g a b) (k : Only p g b c) : Only p g a c :=
 ⟨k.os.trans h.os, k.tape.trans h.tape, k.output.trans h.output, Nat.le_trans h.size k.size, fun i hi h1 h2 => (k.block i (Nat.lt_of_lt_of_le hi h.size) h1 h2).trans (h.block i hi h1 h2)⟩
theorem Only.of_below (h : Below a.heap.size a b) : Only p g a b := ⟨h.os, h.tape, h.output, h.size, fun k hk _ _ => h.block k hk⟩
theorem Only.set (h : Only p g a w) {q : Addr} (hq : q.block = p ∨ q.block = g) (u : Value) : Only p g a (w.setCell q u) :=
 h.trans ⟨rfl, rfl, rfl, by simp [World.setCell], fun k _ h1 h2 => Below.heap_setCell _ _ _ _ (by rcases hq with e | e <;> rw [e] <;> assumption)⟩
theorem Only.alloc (h : Only p g a w) (o : Obj) : Only p g a (w.alloc o) :=
 h.trans ⟨rfl, rfl, rfl, by simp, fun k hk _ _ => Below.heap_alloc _ _ _ hk⟩
theorem Only.grown {row : Option Nat} (h : Only p g a w) (hg : w.grownBy w' row) (hr : ∀ k, row = some k → k = p ∨ k = g) : Only p g a w' :=
 h.trans ⟨hg.os, hg.tape, hg.output, hg.size, fun k hk h1 h2 => hg.block k hk (fun e => by rcases hr k e.symm with e | e <;> contradiction)⟩
/-- Where another list took the old one's place. -/
theorem Only.then {g' : Nat} (h : Only p g a b) (k : Only p g' b c) (hg : g' = g ∨ a.heap.size ≤ g') : Only p g a c :=
 ⟨k.os.trans h.os, k.tape.trans h.tape, k.output.trans h.output, Nat.le_trans h.size k.size, fun i hi h1 h2 => (k.block i (Nat.lt_of_lt_of_le hi h.size) h1 (by rcases hg with rfl | hg <;> omega)).trans (h.block i hi h1 h2)⟩
end

/-- A list of whole numbers, innermost last; 'cap' may be less than what the block holds. -/
def ints (l : List Nat) : List Value := l.map fun (n : Nat) => Value.int .i64 (n : Int)
theorem ints_length (l : List Nat) : (ints l).length = l.length := by simp [ints]
theorem ints_append (a b : List Nat) : ints (a ++ b) = ints a ++ ints b := by simp [ints]
end Go.Proofs.YtloheacncefkgaaGreatDoor

/- Words for what the call made and writes to, more (no program here): what is left as it was but for some blocks; a list of structs of four fields in a row of the call's own. Conditions: none but those that each theorem names. -/
namespace Go.Proofs.YtloheacncefkgaaGreatDoor
open Go.RowKit
set_option linter.unusedVariables false

/-- But for the blocks of S, what was there is as it was. -/
structure Touch (S : Nat → Prop) (w w' : World) : Prop where
 os : w'.os = w.os
 tape : w'.tape = w.tape
 output : w'.output = w.output
 size : w.heap.size ≤ w'.heap.size
 block : ∀ k, k < w.heap.size → ¬ S k → w'.heap[k]? = w.heap[k]?
section
variable {S S' : Nat → Prop} {a b c w w' : World}
theorem Touch.refl (S : Nat → Prop) (w : World) : Touch S w w := ⟨rfl, rfl, rfl, Nat.le_refl _, fun _ _ _ => rfl⟩
theorem Touch.trans (h : Touch S a b) (k : Touch S' b c) (hS : ∀ i, S' i → S i ∨ a.heap.size ≤ i) : Touch S a c :=
 ⟨k.os.trans h.os, k.tape.trans h.tape, k.output.trans h.output, Nat.le_trans h.size k.size, fun i hi hn => (k.block i (Nat.lt_of_lt_of_le hi h.size) (fun hs => by rcases hS i hs with h1 | h1; exact hn h1; omega)).trans (h.block i hi hn)⟩
theorem Touch.of_below (S : Nat → Prop) (h : Below a.heap.size a b) : Touch S a b := ⟨h.os, h.tape, h.output, h.size, fun k hk _ => h.block k hk⟩
theorem Touch.set (h : Touch S a w) {q : Addr} (hq : S q.block ∨ a.heap.size ≤ q.block) (u : Value) : Touch S a (w.setCell q u) :=
 h.trans (S' := fun k => k = q.block) ⟨rfl, rfl, rfl, by simp [World.setCell], fun k _ hk => Below.heap_setCell _ _ _ _ hk⟩ (fun i hi => by subst hi; exact hq)
theorem Touch.alloc (h : Touch S a w) (o : Obj) : Touch S a (w.alloc o) := h.trans (Touch.of_below S ((Below.refl _ w).alloc (Nat.le_refl _) o)) (fun _ hi => .inl hi)
theorem Touch.grown {row : Option Nat} (h : Touch S a w) (hg : w.grownBy w' row) (hr : ∀ k, row = some k → S k ∨ a.heap.size ≤ k) : Touch S a w' :=
 h.trans (S' := fun k => row = some k) ⟨hg.os, hg.tape, hg.output, hg.size, fun k hk h1 => hg.block k hk (fun e => h1 e.symm)⟩ (fun i hi => hr i hi)
theorem Touch.drew (h : Touch S a w) : Touch S a w.drew := ⟨h.os, h.tape, h.output, h.size, h.block⟩
theorem Touch.then_below (h : Touch S a b) (k : Below b.heap.size b c) : Touch S a c := h.trans (Touch.of_below S k) (fun _ hi => .inl hi)
theorem Touch.below {B : Nat} (h : Touch S w w') (hB : B ≤ w.heap.size) (hS : ∀ k, S k → B ≤ k) : Below B w w' :=
 ⟨h.os, h.tape, h.output, h.size, fun k hk => h.block k (by omega) (fun hs => by have := hS k hs; omega)⟩
theorem Touch.cell (h : Touch S w w') {p : Addr} (hp : p.block < w.heap.size) (hn : ¬ S p.block) : w'.cell? p = w.cell? p := World.cell?_of_block (h.block _ hp hn)
theorem Touch.mono (h : Touch S w w') (hS : ∀ k, S k → S' k) : Touch S' w w' := ⟨h.os, h.tape, h.output, h.size, fun k hk hn => h.block k hk (fun hs => hn (hS k hs))⟩
end

/-- What the call owns stays owned where its block lies as it lay. -/
theorem own_block {w w' : World} {base : Nat} {e : TypeId} {size n : Nat} {v : Value} {xs : List Value} (h : w.ownsRow base e size v n xs) (hb : ∀ k, v.ownBlock = some k → w'.heap[k]? = w.heap[k]?) : w'.ownsRow base e size v n xs := by
 refine ⟨h.1, ?_⟩
 rcases h.2 with h2 | ⟨g, cap, cur, rfl, h3, h4, h5⟩
 ·exact .inl h2
 ·exact .inr ⟨g, cap, cur, rfl, h3, (hb g rfl).trans h4, h5⟩
/-- A row's block is none of another type. -/
theorem own_other {w : World} {base : Nat} {e t : TypeId} {size n k : Nat} {v : Value} {xs : List Value} {cs : Array Value} (h : w.ownsRow base e size v n xs) (hk : w.heap[k]? = some (.cells cs t (0, 0))) (ht : t ≠ e) : v.ownBlock ≠ some k := by
 rcases h.2 with ⟨rfl, _⟩ | ⟨g, cap, cur, rfl, _, h4, _⟩
 ·simp [Value.ownBlock]
 ·intro e'
  obtain rfl : g = k := by simpa [Value.ownBlock] using e'
  rw [h4] at hk
  cases hk
  exact ht rfl
theorem own_own {w : World} {base base' : Nat} {e t : TypeId} {size size' n n' : Nat} {v v' : Value} {xs xs' : List Value} (h : w.ownsRow base e size v n xs) (h' : w.ownsRow base' t size' v' n' xs') (ht : t ≠ e) {k : Nat} (hk : v'.ownBlock = some k) : v.ownBlock ≠ some k := by
 rcases h'.2 with ⟨rfl, _⟩ | ⟨g, cap, cur, rfl, _, h4, _⟩
 ·simp [Value.ownBlock] at hk
 ·obtain rfl : g = k := by simpa [Value.ownBlock] using hk
  exact own_other h h4 ht
theorem own_form {w : World} {base : Nat} {e : TypeId} {size n : Nat} {v : Value} {xs : List Value} (h : w.ownsRow base e size v n xs) : ∃ A cap, v = .slice A n cap ∧ n ≤ cap ∧ cap ≤ maxLen ∧ (A = none → cap = 0 ∧ n = 0) ∧ (∀ a, A = some a → ∃ g, a = ⟨g, 0, none⟩) := by
 rcases h.2 with ⟨rfl, rfl⟩ | ⟨g, cap, cur, rfl, _, _, h5, h6, _⟩
 ·exact ⟨none, 0, rfl, Nat.le_refl _, by decide, (fun _ => ⟨rfl, rfl⟩), (fun _ h => by cases h)⟩
 ·exact ⟨some ⟨g, 0, none⟩, cap, rfl, h5, h6, (fun h => by cases h), (fun a h => ⟨g, by cases h; rfl⟩)⟩
theorem own_pos {w : World} {base : Nat} {e : TypeId} {size n : Nat} {v : Value} {xs : List Value} (h : w.ownsRow base e size v n xs) (h0 : 0 < n) : ∃ g cap, v = .slice (some ⟨g, 0, none⟩) n cap ∧ base ≤ g ∧ n ≤ cap ∧ cap ≤ maxLen ∧ g < w.heap.size := by
 rcases h.2 with ⟨_, h0⟩ | ⟨g, cap, cur, rfl, hb, h4, h5, h6, _⟩
 ·omega
 ·exact ⟨g, cap, rfl, hb, h5, h6, lt_of_block h4⟩
theorem own_cap {w : World} {base : Nat} {e : TypeId} {size n cap : Nat} {A : Option Addr} {xs : List Value} (h : w.ownsRow base e size (.slice A n cap) n xs) : n ≤ cap ∧ cap ≤ maxLen := by
 rcases h.2 with ⟨h1, _⟩ | ⟨g, cap', cur, h1, hb, h4, h5, h6, _⟩
 ·cases h1; exact ⟨Nat.le_refl _, by decide⟩
 ·cases h1; exact ⟨h5, h6⟩
theorem own_cell {w : World} {base : Nat} {e : TypeId} {size n : Nat} {v : Value} {xs : List Value} (h : w.ownsRow base e size v n xs) {g : Nat} (hg : v.ownBlock = some g) {j : Nat} {u : Value} (hu : xs[j]? = some u) : w.cell? ⟨g, j, none⟩ = some u := by
 have := h.cells hg j u hu
 have hadd : (⟨g, 0, none⟩ : Addr).add j = ⟨g, j, none⟩ := by unfold Addr.add; split <;> simp_all
 rwa [hadd] at this
theorem own_free {w : World} {base : Nat} {e : TypeId} {size n : Nat} {v : Value} {xs : List Value} (h : w.ownsRow base e size v n xs) {g : Nat} (hg : v.ownBlock = some g) (j : Nat) : w.frozen? ⟨g, j, none⟩ = false := by
 rcases h.2 with ⟨rfl, _⟩ | ⟨g', cap, cur, rfl, _, h4, _⟩
 ·simp [Value.ownBlock] at hg
 ·obtain rfl : g' = g := by simpa [Value.ownBlock] using hg
  exact obj_free h4 j
/-- A store into the row. -/
theorem own_set {w : World} {base : Nat} {e : TypeId} {size n : Nat} {v : Value} {xs : List Value} (h : w.ownsRow base e size v n xs) {g : Nat} (hg : v.ownBlock = some g) {j : Nat} (hj : j < xs.length) (u : Value) : (w.setCell ⟨g, j, none⟩ u).ownsRow base e size v n (xs.set j u) := by
 refine ⟨by rw [List.length_set]; exact h.1, ?_⟩
 rcases h.2 with ⟨rfl, _⟩ | ⟨g', cap, cur, rfl, h3, h4, h5, h6, h7, h8⟩
 ·simp [Value.ownBlock] at hg
 ·obtain rfl : g' = g := by simpa [Value.ownBlock] using hg
  refine .inr ⟨g', cap, cur.setIfInBounds j u, rfl, h3, obj_set h4 j u, h5, h6, by simpa using h7, ?_⟩
  rw [Array.toList_setIfInBounds, ← h8, List.take_set]
/-- Fewer of the row. -/
theorem own_take {w : World} {base : Nat} {e : TypeId} {size n : Nat} {g cap : Nat} {xs : List Value} (h : w.ownsRow base e size (.slice (some ⟨g, 0, none⟩) n cap) n xs) {k : Nat} (hk : k ≤ n) : w.ownsRow base e size (.slice (some ⟨g, 0, none⟩) k cap) k (xs.take (k * size)) := by
 have hle : k * size ≤ n * size := Nat.mul_le_mul_right _ hk
 refine ⟨by rw [List.length_take, h.1]; omega, ?_⟩
 rcases h.2 with ⟨h0, _⟩ | ⟨g', cap', cur, h0, h3, h4, h5, h6, h7, h8⟩
 ·cases h0
 ·cases h0
  refine .inr ⟨g, cap, cur, rfl, h3, h4, by omega, h6, h7, ?_⟩
  rw [← h8, List.take_take, Nat.min_eq_left hle]
/-- All the row's block, as long as the slice has room. -/
theorem own_whole {w : World} {base : Nat} {e : TypeId} {size n : Nat} {g cap : Nat} {xs : List Value} (h : w.ownsRow base e size (.slice (some ⟨g, 0, none⟩) n cap) n xs) : ∃ cur : List Value, w.heap[g]? = some (.cells cur.toArray e (0, 0)) ∧ cur.length = cap * size ∧ cur.take (n * size) = xs := by
 rcases h.2 with ⟨h0, _⟩ | ⟨g', cap', cur, h0, h3, h4, h5, h6, h7, h8⟩
 ·cases h0
 ·cases h0
  exact ⟨cur.toList, by simpa using h4, by simpa using h7, h8⟩

theorem Bs.heap {w w' : World} {A : Option Addr} {cap : Nat} {bs : List UInt8} (h : Bs w A cap bs) (hk : ∀ a, A = some a → w'.heap[a.block]? = w.heap[a.block]?) : Bs w' A cap bs :=
 ⟨h.le, h.max, h.nil, fun j c hj => by
  obtain ⟨b, off, e, hc⟩ := h.at_ j c hj
  exact ⟨b, off, e, (World.cell?_of_block (a := ⟨b, off + j, none⟩) (hk ⟨b, off, none⟩ e)).trans hc⟩⟩

/-- Lists of lists of k each, one behind the other. -/
theorem flat_length {α β : Type} (f : α → List β) (k : Nat) (hf : ∀ a, (f a).length = k) : ∀ l : List α, (l.flatMap f).length = l.length * k
 | [] => by simp
 | a :: l => by rw [List.flatMap_cons, List.length_append, hf, flat_length f k hf l, List.length_cons, Nat.add_mul]; omega
theorem flat_get {α β : Type} (f : α → List β) (k : Nat) (hf : ∀ a, (f a).length = k) : ∀ (l : List α) (j : Nat) (a : α) (i : Nat), l[j]? = some a → i < k → (l.flatMap f)[k * j + i]? = (f a)[i]?
 | [], j, a, i, h, _ => by simp at h
 | b :: l, 0, a, i, h, hi => by
   obtain rfl : b = a := by simpa using h
   rw [List.flatMap_cons, List.getElem?_append_left (by rw [hf]; omega)]; simp
 | b :: l, j + 1, a, i, h, hi => by
   rw [List.flatMap_cons, List.getElem?_append_right (by rw [hf, Nat.mul_succ]; omega), hf, show k * (j + 1) + i - k = k * j + i by rw [Nat.mul_succ]; omega]
   exact flat_get f k hf l j a i (by simpa using h) hi
theorem flat_set {α β : Type} (f : α → List β) (k : Nat) (hf : ∀ a, (f a).length = k) : ∀ (l : List α) (j : Nat) (a a' : α) (i : Nat) (u : β), l[j]? = some a → i < k → f a' = (f a).set i u → (l.flatMap f).set (k * j + i) u = (l.set j a').flatMap f
 | [], j, a, a', i, u, h, _, _ => by simp at h
 | b :: l, 0, a, a', i, u, h, hi, hu => by
   obtain rfl : b = a := by simpa using h
   rw [List.flatMap_cons, List.set_append_left _ _ (by rw [hf]; omega), List.set_cons_zero, List.flatMap_cons, hu]; simp
 | b :: l, j + 1, a, a', i, u, h, hi, hu => by
   rw [List.flatMap_cons, List.set_append_right _ _ (by rw [hf, Nat.mul_succ]; omega), hf, show k * (j + 1) + i - k = k * j + i by rw [Nat.mul_succ]; omega, List.set_cons_succ, List.flatMap_cons]
   rw [flat_set f k hf l j a a' i u (by simpa using h) hi hu]
end Go.Proofs.YtloheacncefkgaaGreatDoor
