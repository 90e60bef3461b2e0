/- Several texts in one: SxD. What each proves, and its conditions, stands at its own head. -/
import Derived.Test.YtjogamffdbedkaaGreatDoorPkA38
import Derived.Shelf.Strconv.Clone
import Derived.Test.YtjogamffdbedkaaGreatDoorChecked
import Derived.Lib.AppendZerosOnto
/- slices.Grow of no list, slices.Concat of two lists of texts, strings.Clone. Conditions: those that each theorem names. -/
namespace Go.Proofs.YtjogamffdbedkaaGreatDoor
open Go.RowKit
set_option linter.unusedVariables false
set_option maxRecDepth 100000

set_option maxHeartbeats 2000000 in
theorem sgrow_nil (w : World) (n : Nat) (hn : n ≤ 1000000) :
    Calls Tryz.prog 105 #[.slice none 0 0, .int .i64 n] w fun e w' => ∃ v, e = .returned v ∧ w'.ownsRow w.heap.size 9 1 v 0 (txts []) ∧ Below w.heap.size w w' := by
  obtain ⟨i, hi, hz0, hz1, hz2⟩ := info_str_parts
  by_cases h0 : n = 0
  · subst h0
    go_enter Tryz.func105, Tryz.ntmps105
    go_wp2
    go_ret
    exact ⟨_, rfl, row_none w _ 1 _, Below.refl _ _⟩
  · have h1 : ¬ ((n : Int) < 0) := by omega
    have h4 : (n : Int) > 0 := by omega
    have g1 : decide ((n : Int) < 0) = false := decide_eq_false (by omega)
    have g2 : decide ((n : Int) > 0) = true := decide_eq_true (by omega)
    have g3 : decide (0 < n) = true := decide_eq_true (by omega)
    have gw : IntKind.i64.wrap (n : Int) = (n : Int) := IntWalk.i64_in _ (by omega)
    have hold : (Builtin.firstCells i.size 0 (.slice none 0 0)).run Tryz.prog w.drew = .ok (([] : List Value)).toArray w.drew := run_firstCells_none w.drew i.size 0 0 0
    have hrz : ∀ ty, (Builtin.append_ #[68, 3] ty #[.slice none 0 0, .int .i64 (n : Int)]).run Tryz.prog w =
        .ok (.slice (some ⟨w.heap.size, 0, none⟩) n (grownCap w n 0 9)) (w.drew.alloc (.cells (([] : List Value).toArray ++ Builtin.zeroCells (Value.string ByteArray.empty).cells n ++ Builtin.zeroCells (Value.string ByteArray.empty).cells (grownCap w n 0 9 - n)) 9)) := fun ty => by
      have h := Lib.run_append_grow_zeros w 68 3 ty 9 i (.string ByteArray.empty) .i64 .i64 Tryz.underlying68 Tryz.underlying3 hi hz0 none 0 0 [] hold n (by omega) (by omega) (by omega) (by omega)
        (by rw [hz2]; omega) (by rw [Nat.zero_add]; exact growslice_fits (by omega) (by rw [hz2]; omega))
      rw [Nat.zero_add] at h
      exact h
    have hGn : n ≤ grownCap w n 0 9 := grownCap_ge w _ _ _
    have hGm := grownCap_le_maxLen w n 0 9 (by unfold maxLen; omega)
    obtain ⟨G, hG⟩ : ∃ G, G = grownCap w n 0 9 := ⟨_, rfl⟩
    rw [← hG] at hrz hGn hGm
    have hG63 : G ≤ 9223372036854775807 := by unfold maxLen at hGm; omega
    have HGM := Lib.hid hGm
    clear hold hG hGm hi
    go_enter Tryz.func105, Tryz.ntmps105
    go_wp2_with (at_builtin; refine Lib.wpList_append_run _ rfl _ _ _ _ rfl _ _ rfl rfl _ _ (hrz _) ?_)
    go_ret
    refine ⟨_, rfl, ⟨rfl, .inr ⟨w.heap.size, G, _, rfl, Nat.le_refl _, heap_alloc_new w.drew _, Nat.zero_le _, HGM.out, ?_, rfl⟩⟩, ?_⟩
    · simp [Builtin.zeroCells]
      omega
    · exact ((Below.refl _ w).trans (drewN_under w 1)).alloc (Nat.le_refl _) _

/-- How many texts the first k lists have. -/
def upTo {α : Type} (a b : List α) : Nat → List α
  | 0 => []
  | 1 => a
  | _ => a ++ b
theorem upTo_len {α : Type} {a b : List α} (k : Nat) (ha : a.length ≤ 1000) (hb : b.length ≤ 1000) : (upTo a b k).length ≤ 2000 := by
  match k with
  | 0 => exact Nat.zero_le _
  | 1 => show a.length ≤ 2000; omega
  | k + 2 => show (a ++ b).length ≤ 2000; rw [List.length_append]; omega
set_option maxHeartbeats 4000000 in
theorem sconcat_any (w : World) (g : Nat) {A1 A2 : Option Addr} {n1 c1 n2 c2 : Nat} {l1 l2 : List (List UInt8)} (h0 : w.cell? ⟨g, 0, none⟩ = some (.slice A1 n1 c1)) (h1 : w.cell? ⟨g, 1, none⟩ = some (.slice A2 n2 c2))
    (hs1 : Sl w A1 c1 (txts l1)) (hs2 : Sl w A2 c2 (txts l2)) (hn1 : n1 = l1.length) (hn2 : n2 = l2.length) (hm1 : n1 ≤ 1000) (hm2 : n2 ≤ 1000) :
    Calls Tryz.prog 72 #[.slice (some ⟨g, 0, none⟩) 2 2] w fun e w' => ∃ v, e = .returned v ∧ w'.ownsRow w.heap.size 9 1 v (l1 ++ l2).length (txts (l1 ++ l2)) ∧ Below w.heap.size w w' := by
  have HG := Lib.hid (sgrow_nil w (n1 + n2) (by omega))
  have H1 := Lib.hid hs1
  have H2 := Lib.hid hs2
  have HN1 := Lib.hid hn1
  have HN2 := Lib.hid hn2
  have HC0 := Lib.hid h0
  have HC1 := Lib.hid h1
  have HL : Hid (∀ k, (upTo l1 l2 k).length ≤ 2000) := Lib.hid (fun k => upTo_len k (by omega) (by omega))
  clear hs1 hs2 hn1 hn2
  have gw1 : IntKind.i64.wrap ((n1 : Int) + (n2 : Int)) = ((n1 + n2 : Nat) : Int) := by rw [IntWalk.i64_in _ (by omega)]; omega
  have gw0 : IntKind.i64.wrap (n1 : Int) = (n1 : Int) := IntWalk.i64_in _ (by omega)
  have gn1 : decide ((n1 : Int) < 0) = false := decide_eq_false (by omega)
  have gn2 : decide (((n1 + n2 : Nat) : Int) < 0) = false := decide_eq_false (by omega)
  clear h0 h1
  go_enter Tryz.func72, Tryz.ntmps72
  go_wp2
  go_loopw [3, 5, 11] (fun u v x wr => ∃ k : Nat, x = .int .i64 (k : Int) ∧ k ≤ 2 ∧ u = .int .i64 ((if k = 0 then 0 else if k = 1 then n1 else n1 + n2 : Nat) : Int) ∧ w = wr) (fun u v x _ => 2 - (intOf x).toNat)
  case atStart => exact ⟨0, rfl, by omega, rfl, by trivial⟩
  case round =>
    obtain ⟨k, rfl, hk, rfl, rfl⟩ := hrel
    have c0 := HC0.out
    have c1' := HC1.out
    match k, hk with
    | 0, _ =>
      go_wp2
      go_roundw
      case rel => exact ⟨1, rfl, by omega, rfl, by trivial⟩
      case measure => simp [intOf]
    | 1, _ =>
      go_wp2
      go_roundw
      case rel => exact ⟨2, rfl, by omega, rfl, by trivial⟩
      case measure => simp [intOf]
    | 2, _ =>
      go_wp2_with (go_at_call 105; refine HG.out.mono ?_; rintro e w2 ⟨v0, rfl, ho, hb⟩; have HO := Lib.hid ho; have HB := Lib.hid hb; clear ho hb)
      go_loopw [6, 8, 27] (fun u v x wr2 => ∃ k : Nat, x = .int .i64 (k : Int) ∧ k ≤ 2 ∧ wr2.ownsRow w.heap.size 9 1 u (upTo l1 l2 k).length (txts (upTo l1 l2 k)) ∧ Below w.heap.size w wr2) (fun u v x _ => 2 - (intOf x).toNat)
      case atStart => exact ⟨0, rfl, by omega, HO.out, HB.out⟩
      case round =>
        obtain ⟨k, rfl, hk, hown, hbel⟩ := hrel
        have HOWN := Lib.hid hown
        have HBEL := Lib.hid hbel
        have c0 := cell_under hbel HC0.out
        have c1' := cell_under hbel HC1.out
        clear hown hbel
        match k, hk with
        | 0, _ =>
          go_wp2_with (at_builtin; refine wpList_append_sl rfl _ _ rfl w.heap.size _ _ _ rfl HOWN.out _ n1 c1 l1 rfl HN1.out (H1.out.below HBEL.out (Nat.le_refl _)) (by have := HN1.out; show 0 + _ ≤ 1000000; omega) HBEL.out.size ?_; intro va2 w3 ho hg; have HOA := Lib.hid ho; have HBA := Lib.hid (HBEL.out.grown hg HBEL.out.size (fun k hk => (HOWN.out.lt k hk).1)); clear ho hg)
          go_roundw
          case rel => exact ⟨1, rfl, by omega, (by have := HOA.out; simpa [upTo] using this), HBA.out⟩
          case measure => simp [intOf]
        | 1, _ =>
          go_wp2_with (at_builtin; refine wpList_append_sl rfl _ _ rfl w.heap.size _ _ _ rfl HOWN.out _ n2 c2 l2 rfl HN2.out (H2.out.below HBEL.out (Nat.le_refl _)) (by have := HN1.out; have := HN2.out; show l1.length + _ ≤ 1000000; omega) HBEL.out.size ?_; intro va2 w3 ho hg; have HOA := Lib.hid ho; have HBA := Lib.hid (HBEL.out.grown hg HBEL.out.size (fun k hk => (HOWN.out.lt k hk).1)); clear ho hg)
          go_roundw
          case rel => exact ⟨2, rfl, by omega, (by have := HOA.out; rw [← List.length_append] at this; exact this), HBA.out⟩
          case measure => simp [intOf]
        | 2, _ =>
          go_wp2
          go_ret
          exact ⟨_, rfl, HOWN.out, HBEL.out⟩
end Go.Proofs.YtjogamffdbedkaaGreatDoor
