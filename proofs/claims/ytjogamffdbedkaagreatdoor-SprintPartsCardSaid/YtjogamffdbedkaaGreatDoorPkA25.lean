/- Several texts in one: IwE. What each proves, and its conditions, stands at its own head. -/
import Derived.Test.YtjogamffdbedkaaGreatDoorPkA24
import Derived.Test.YtjogamffdbedkaaGreatDoorPkA2
import Derived.Test.YtjogamffdbedkaaGreatDoorPkA18
import Derived.Test.YtjogamffdbedkaaGreatDoorPkA1
import Derived.Test.YtjogamffdbedkaaGreatDoorPkA20
import Derived.Sort.OwnSorted
import Derived.Sort.Walk0
import Derived.Deep.DeepMust
/- The program's layer 9: Once, by the library's Clone and Sort; what is asked of layer 9. Conditions: those that each theorem names. -/
namespace Go.Proofs.YtjogamffdbedkaaGreatDoor
open Go.RowKit Go.Sort
set_option linter.unusedVariables false
set_option maxRecDepth 100000

/-- The library's order of texts. -/
def sortL (ts : List (List UInt8)) : List (List UInt8) := ts.mergeSort fun x y => decide (x ≤ y)
theorem ahead_lt (a b : List UInt8) : ahead a b = decide (a < b) := by rw [← less_ahead, bytesLess_eq]
theorem sortL_length (ts : List (List UInt8)) : (sortL ts).length = ts.length := by simp [sortL]
theorem sort_rise (ts : List (List UInt8)) : riseB (sortL ts) = onceB ts := by
  have tr : ∀ a b c : List UInt8, decide (a ≤ b) = true → decide (b ≤ c) = true → decide (a ≤ c) = true := fun a b c h1 h2 => by simp only [decide_eq_true_eq] at *; exact List.le_trans h1 h2
  have to : ∀ a b : List UInt8, (decide (a ≤ b) || decide (b ≤ a)) = true := fun a b => by simp only [Bool.or_eq_true, decide_eq_true_eq]; exact List.le_total a b
  have hp : (sortL ts).Pairwise (fun a b => decide (a ≤ b) = true) := List.pairwise_mergeSort tr to ts
  have hperm : (sortL ts).Perm ts := List.mergeSort_perm ts _
  have hn : onceB (sortL ts) = onceB ts := by
    have h : onceB (sortL ts) = true ↔ onceB ts = true := by rw [onceB_iff, onceB_iff]; exact hperm.nodup_iff
    cases h1 : onceB (sortL ts) <;> cases h2 : onceB ts <;> simp_all
  rw [← hn]
  cases hr : riseB (sortL ts) with
  | true => exact (rise_once hr).symm
  | false =>
    cases ho : onceB (sortL ts) with
    | false => rfl
    | true =>
      have hnd := (onceB_iff _).mp ho
      have : riseB (sortL ts) = true := riseB_all (fun k a b ha hb => by
        obtain ⟨i1, e1⟩ := List.getElem?_eq_some_iff.mp ha
        obtain ⟨i2, e2⟩ := List.getElem?_eq_some_iff.mp hb
        have q1 := (List.pairwise_iff_getElem.mp hp) k (k + 1) i1 i2 (by omega)
        have q2 := (List.pairwise_iff_getElem.mp hnd) k (k + 1) i1 i2 (by omega)
        rw [e1, e2] at q1 q2
        rw [ahead_lt, decide_eq_true_eq]
        rw [decide_eq_true_eq] at q1
        exact Classical.byContradiction fun h => q2 (List.le_antisymm q1 (List.not_lt.mp h)))
      rw [this] at hr
      cases hr
theorem txts_enc (ts : List (List UInt8)) : txts ts = ts.map encStr := rfl
theorem clone_txts (w : World) {A : Option Addr} {cap n : Nat} {ts : List (List UInt8)} (hs : Sl w A cap (txts ts)) (hn : n = ts.length) (hl : n ≤ 1000000) :
    Calls Tryz.prog 116 #[.slice A n cap] w fun e w' => ∃ v, e = .returned v ∧ w'.ownsRow w.heap.size 9 1 v n (txts ts) ∧ Below w.heap.size w w' := by
  rcases A with _ | a
  · have h0 := hs.nil rfl
    have hle := hs.le
    rw [txts_length] at hle
    have hts : ts = [] := List.eq_nil_of_length_eq_zero (by omega)
    subst hts h0
    have hn0 : n = 0 := hn
    subst hn0
    have he : ∀ w : World, (binOp .eql 68 (.slice none 0 0) (.slice none 0 0)).run Tryz.prog w = .ok (.bool true) w := fun _ => rfl
    clear hs hl hle hn
    go_enter Tryz.func116, Tryz.ntmps116
    go_wp2
    go_ret
    exact ⟨_, rfl, ⟨rfl, .inl ⟨rfl, rfl⟩⟩, Below.refl _ _⟩
  · have he : ∀ w : World, (binOp .eql 68 (.slice (some a) n cap) (.slice none 0 0)).run Tryz.prog w = .ok (.bool false) w := fun _ => rfl
    have HB := Lib.hid hs
    have HN := Lib.hid hn
    have HL := Lib.hid hl
    clear hs hn hl
    go_enter Tryz.func116, Tryz.ntmps116
    go_wp2_with (at_builtin; refine wpList_append_sl rfl _ _ rfl w.heap.size _ 0 [] rfl (own0_str w) _ _ _ ts rfl HN.out (HB.out.alloc _) (by have := HN.out; have := HL.out; simp; omega) (by simp) ?_; go_must (intro v2 w2 hown2 hgrow2))
    go_ret
    rw [List.nil_append, List.length_nil, Nat.zero_add, ← HN.out] at hown2
    exact ⟨_, rfl, hown2, ((Below.refl _ _).alloc (Nat.le_refl _) _).grown hgrow2 (by simp) (fun k e => by cases e; exact Nat.le_refl _)⟩
theorem sort_txts (w : World) {base n : Nat} {v : Value} {ts : List (List UInt8)} (hown : w.ownsRow base 9 1 v n (txts ts)) (hl : n ≤ 1000000) :
    Calls Tryz.prog 117 #[v] w fun e w' => e = .returned (.tuple #[]) ∧ w'.ownsRow base 9 1 v n (txts (sortL ts)) ∧ w.grownBy w' v.ownBlock := by
  have hn : n = ts.length := by have := (Sl.own hown).1; rwa [txts_length] at this
  rcases hown.2 with ⟨rfl, h0⟩ | ⟨g, cap, cur, rfl, hbase, hb, h1, h2, h3, h4⟩
  · have hts : ts = [] := List.eq_nil_of_length_eq_zero (by omega)
    subst hts
    obtain rfl : n = 0 := hn
    refine (Any.slices_Sort_string_none srts_lays none 0 w).mono ?_
    rintro e w' ⟨rfl, rfl⟩
    exact ⟨rfl, by rw [show sortL [] = [] from by simp [sortL]]; exact hown, World.grownBy.refl _ _⟩
  · subst hn
    refine (Any.slices_Sort_string srts_lays g 0 cap ts w (holds_of_block hb (by simpa [txts_enc] using h4)) ((Array.getElem?_eq_some_iff.1 hb).1) (by omega)).mono ?_
    rintro e w' ⟨rfl, m, os, rfl⟩
    refine ⟨rfl, ?_, grownBy_sorted _⟩
    exact ownsRow_sorted (sortL_length ts) hbase hb h1 h2 h3
theorem ponce_any (w : World) {A : Option Addr} {cap n : Nat} {ts : List (List UInt8)} (hs : Sl w A cap (txts ts)) (hn : n = ts.length) (hl : n ≤ 1000000) :
    Calls Tryz.prog 79 #[.slice A n cap] w fun e w' => e = .returned (.bool (onceB ts)) ∧ Below w.heap.size w w' := by
  have HC := Lib.hid (clone_txts w hs hn hl)
  have HS := Lib.hid (fun (w1 : World) (v : Value) (h : w1.ownsRow w.heap.size 9 1 v n (txts ts)) => sort_txts w1 h hl)
  have HN := Lib.hid hn
  clear hs hn hl
  go_enter Tryz.func79, Tryz.ntmps79
  go_wp2_with (first
    | (go_at_call 116
       refine HC.out.mono ?_
       rintro e w1 ⟨v, rfl, ho1, hb1⟩
       have HO1 := Lib.hid ho1
       have HB1 := Lib.hid hb1
       clear ho1 hb1 HC)
    | (go_at_call 117
       refine (HS.out _ _ HO1.out).mono ?_
       rintro e w2 ⟨rfl, ho2, hg2⟩
       have HB2 := Lib.hid (HB1.out.grown hg2 HB1.out.size (fun k hk => (HO1.out.lt k hk).1))
       obtain ⟨_, A2, cap2, hv, hs2⟩ := Sl.own ho2
       rw [txts_length] at hv
       have HR := Lib.hid (prise_any w2 hs2 rfl)
       rw [sort_rise] at HR
       subst hv
       clear ho2 hg2 hs2 HO1 HB1 HS)
    | (go_at_call 82
       refine HR.out.mono ?_
       rintro e w3 ⟨rfl, hb3⟩
       have HB3 := Lib.hid (show Below w.heap.size w w3 from by obtain ⟨k, rfl⟩ := hb3; exact below_drewN HB2.out k)
       clear hb3))
  go_ret
  exact ⟨rfl, HB3.out⟩
theorem id_ok : IdOk :=
  ⟨pright_any, fun w A cap n ts hs hn => (prise_any w hs hn).mono (fun e w' h => ⟨h.1, by obtain ⟨k, rfl⟩ := h.2; exact below_drewN (Below.refl _ _) k⟩), fun w A cap n ts hs hn hl => ponce_any w hs hn hl⟩
end Go.Proofs.YtjogamffdbedkaaGreatDoor
