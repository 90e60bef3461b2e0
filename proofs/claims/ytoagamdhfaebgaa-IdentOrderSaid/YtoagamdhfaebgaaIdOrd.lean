/- The walk of IdentOrder over what is asked of layer 9. Conditions: those that each theorem names. -/
import Derived.Test.YtoagamdhfaebgaaIdLaw
import Derived.Test.YtoagamdhfaebgaaSlApp
namespace Go.Proofs.Ytoagamdhfaebgaa
open Go.RowKit
set_option linter.unusedVariables false
set_option maxRecDepth 100000

theorem once_comm (a b : List (List UInt8)) : onceB (a ++ b) = onceB (b ++ a) := by
  have h : (onceB (a ++ b) = true) ↔ (onceB (b ++ a) = true) := by
    rw [onceB_iff, onceB_iff]
    exact List.Perm.nodup_iff List.perm_append_comm
  cases h1 : onceB (a ++ b) <;> cases h2 : onceB (b ++ a) <;> simp_all
theorem once_parts {a b : List (List UInt8)} (h : onceB (a ++ b) = true) : onceB a = true ∧ onceB b = true := by
  rw [onceB_iff] at h ⊢
  rw [onceB_iff]
  exact ⟨h.sublist (List.sublist_append_left a b), h.sublist (List.sublist_append_right a b)⟩
theorem identorder_walk (ok : IdOk) (w : World) (A : Option Addr) (cap : Nat) (xs : List (List UInt8)) (hb : Sl w A cap (txts xs)) (A' : Option Addr) (cap' : Nat) (ys : List (List UInt8)) (hb' : Sl w A' cap' (txts ys)) :
    Calls Try.prog 5 #[.slice A xs.length cap, .slice A' ys.length cap'] w fun e w' => e = .returned (.bool true) ∧ Below w.heap.size w w' := by
  have HLV : Hid (∀ w, Calls Try.prog 6 #[] w fun e w' => e = .returned (.bool true) ∧ Below w.heap.size w w') := Lib.hid (idlive_any ok)
  have HP1 : Hid (xs.length ≤ 30 → ∀ w', Below w.heap.size w w' → Calls Try.prog 11 #[.slice A xs.length cap] w' fun e w2 => e = .returned (.bool (onceB xs)) ∧ Below w'.heap.size w' w2) := Lib.hid (fun hl w' hbl => ok.once w' A cap _ xs (hb.below hbl (Nat.le_refl _)) rfl (by omega))
  have HP2 : Hid (ys.length ≤ 30 → ∀ w', Below w.heap.size w w' → Calls Try.prog 11 #[.slice A' ys.length cap'] w' fun e w2 => e = .returned (.bool (onceB ys)) ∧ Below w'.heap.size w' w2) := Lib.hid (fun hl w' hbl => ok.once w' A' cap' _ ys (hb'.below hbl (Nat.le_refl _)) rfl (by omega))
  obtain ⟨o, ho⟩ : ∃ o, o = onceB (xs ++ ys) := ⟨_, rfl⟩
  have HX : Hid (∀ w2 w' A3 cap3 n3, Sl w2 A3 cap3 (txts (xs ++ ys)) → n3 = (xs ++ ys).length → (xs ++ ys).length ≤ 60 → Below w2.heap.size w2 w' → Calls Try.prog 11 #[.slice A3 n3 cap3] w' fun e w3 => e = .returned (.bool o) ∧ Below w'.heap.size w' w3) := Lib.hid (fun w2 w' A3 cap3 n3 hs hn hl hbl => by rw [ho]; exact ok.once w' A3 cap3 n3 _ (hs.below hbl (Nat.le_refl _)) hn (by omega))
  have HY : Hid (∀ w2 w' A3 cap3 n3, Sl w2 A3 cap3 (txts (ys ++ xs)) → n3 = (ys ++ xs).length → (ys ++ xs).length ≤ 60 → Below w2.heap.size w2 w' → Calls Try.prog 11 #[.slice A3 n3 cap3] w' fun e w3 => e = .returned (.bool o) ∧ Below w'.heap.size w' w3) := Lib.hid (fun w2 w' A3 cap3 n3 hs hn hl hbl => by rw [ho, once_comm]; exact ok.once w' A3 cap3 n3 _ (hs.below hbl (Nat.le_refl _)) hn (by omega))
  have hpa : o = true → onceB xs = true ∧ onceB ys = true := fun h => once_parts (ho.symm.trans h)
  have hx1 := hb.le
  have hx2 := hb.max
  have hy1 := hb'.le
  have hy2 := hb'.max
  rw [txts_length] at hx1 hy1
  unfold maxLen at hx2 hy2
  obtain ⟨nx, hnx⟩ : ∃ nx, nx = xs.length := ⟨_, rfl⟩
  obtain ⟨ny, hny⟩ : ∃ ny, ny = ys.length := ⟨_, rfl⟩
  rw [← hnx] at HP1 hx1
  rw [← hny] at HP2 hy1
  rw [← hnx, ← hny]
  have HB := Lib.hid hb
  have HB' := Lib.hid hb'
  have HNX := Lib.hid hnx
  have HNY := Lib.hid hny
  clear ok hb hb' hnx hny ho
  by_cases h1 : nx > 30
  · have g1 : decide ((nx : Int) > 30) = true := decide_eq_true (by omega)
    clear hpa
    go_enter Try.func5, Try.ntmps5
    go_wp2_with (go_at_call 6; refine (HLV.out _).mono ?_; rintro e w6 ⟨rfl, hb6⟩)
    go_ret
    exact ⟨rfl, hb6⟩
  have g1 : decide ((nx : Int) > 30) = false := decide_eq_false (by omega)
  by_cases h2 : ny > 30
  · have g2 : decide ((ny : Int) > 30) = true := decide_eq_true (by omega)
    clear hpa
    go_enter Try.func5, Try.ntmps5
    go_wp2_with (go_at_call 6; refine (HLV.out _).mono ?_; rintro e w6 ⟨rfl, hb6⟩)
    go_ret
    exact ⟨rfl, hb6⟩
  have g2 : decide ((ny : Int) > 30) = false := decide_eq_false (by omega)
  have HL2 : Hid (nx + ny ≤ 60) := Lib.hid (by omega)
  have HP1 := Lib.hid (HP1.out (by have := HNX.out; omega))
  have HP2 := Lib.hid (HP2.out (by have := HNY.out; omega))
  have HLX : Hid ((xs ++ ys).length ≤ 60) := Lib.hid (by have := HNX.out; have := HNY.out; rw [List.length_append]; omega)
  have HLY : Hid ((ys ++ xs).length ≤ 60) := Lib.hid (by have := HNX.out; have := HNY.out; rw [List.length_append]; omega)
  have HA : Hid (o = true → onceB xs = true ∧ onceB ys = true) := Lib.hid hpa
  clear hpa
  cases o with
  | false =>
    go_enter Try.func5, Try.ntmps5
    have HT0 := Lib.hid trivial
    go_wp2_with (first
      | (at_builtin
         have q0 := HT0.out
         refine wpList_append_sl rfl _ _ rfl w.heap.size _ 0 [] rfl (own0_str w) _ _ _ xs rfl HNX.out (HB.out.alloc _) (by have := HNX.out; have := HL2.out; simp; omega) (by simp) ?_
         intro v2 w2 ho2 hg2
         rw [List.nil_append, List.length_nil, Nat.zero_add] at ho2
         have HO2 := Lib.hid ho2
         have HB2 := Lib.hid (((Below.refl _ w).alloc (Nat.le_refl _) _).grown hg2 (by simp) (fun k e => by cases e; exact Nat.le_refl _))
         clear ho2 hg2 HT0 q0)
      | (at_builtin
         refine wpList_append_sl rfl _ _ rfl w.heap.size _ _ xs rfl HO2.out _ _ _ ys rfl HNY.out (HB'.out.below HB2.out (Nat.le_refl _)) (by have := HNX.out; have := HNY.out; have := HL2.out; omega) HB2.out.size ?_
         intro v3 w3 ho3 hg3
         have HB3 := Lib.hid (HB2.out.grown hg3 HB2.out.size (fun k hk => (HO2.out.lt k hk).1))
         obtain ⟨hn3, A3, cap3, hv3, hB3⟩ := Sl.own ho3
         rw [txts_length] at hv3
         obtain ⟨n3, hn3e⟩ : ∃ n3, n3 = (xs ++ ys).length := ⟨_, rfl⟩
         rw [← hn3e] at hv3
         subst hv3
         have HN3 := Lib.hid hn3e
         have HBS3 := Lib.hid hB3
         have HT3 := Lib.hid trivial
         clear ho3 hg3 hB3 hn3 hn3e HO2 HB2)
      | (at_builtin
         have q0 := HT3.out
         refine wpList_append_sl rfl _ _ rfl w3.heap.size _ 0 [] rfl (own0_str w3) _ _ _ ys rfl HNY.out ((HB'.out.below HB3.out (Nat.le_refl _)).alloc _) (by have := HNY.out; have := HL2.out; simp; omega) (by simp) ?_
         intro v4 w4 ho4 hg4
         rw [List.nil_append, List.length_nil, Nat.zero_add] at ho4
         have HO4 := Lib.hid ho4
         have HC4 := Lib.hid (((Below.refl _ w3).alloc (Nat.le_refl _) _).grown hg4 (by simp) (fun k e => by cases e; exact Nat.le_refl _))
         clear ho4 hg4 HT3 q0)
      | (at_builtin
         refine wpList_append_sl rfl _ _ rfl w3.heap.size _ _ ys rfl HO4.out _ _ _ xs rfl HNX.out (HB.out.below (HB3.out.trans (HC4.out.mono HB3.out.size)) (Nat.le_refl _)) (by have := HNX.out; have := HNY.out; have := HL2.out; omega) HC4.out.size ?_
         intro v5 w5 ho5 hg5
         have HC5 := Lib.hid (HC4.out.grown hg5 HC4.out.size (fun k hk => (HO4.out.lt k hk).1))
         obtain ⟨hn5, A5, cap5, hv5, hB5⟩ := Sl.own ho5
         rw [txts_length] at hv5
         obtain ⟨n5, hn5e⟩ : ∃ n5, n5 = (ys ++ xs).length := ⟨_, rfl⟩
         rw [← hn5e] at hv5
         subst hv5
         have HN5 := Lib.hid hn5e
         have HBS5 := Lib.hid hB5
         clear ho5 hg5 hB5 hn5 hn5e HO4 HC4)
      | (go_at_call 11
         refine (HX.out _ _ _ _ _ HBS3.out HN3.out HLX.out HC5.out).mono ?_
         rintro e w6 ⟨rfl, hb6⟩
         have HC6 := Lib.hid (HC5.out.trans (hb6.mono HC5.out.size))
         have HD6 := Lib.hid hb6
         clear hb6 HC5)
      | (go_at_call 11
         refine (HY.out _ _ _ _ _ HBS5.out HN5.out HLY.out HD6.out).mono ?_
         rintro e w7 ⟨rfl, hb7⟩
         have HC7 := Lib.hid (HC6.out.trans (hb7.mono HC6.out.size))
         clear hb7 HC6 HD6)
      | (go_at_call 11
         refine (HX.out _ _ _ _ _ HBS3.out HN3.out HLX.out HC7.out).mono ?_
         rintro e w8 ⟨rfl, hb8⟩
         have HC8 := Lib.hid (HC7.out.trans (hb8.mono HC7.out.size))
         clear hb8 HC7)
      | (go_at_call 6; refine (HLV.out _).mono ?_; rintro e w11 ⟨rfl, hb11⟩))
    go_ret
    have hc := HC8.out.trans (hb11.mono HC8.out.size)
    exact ⟨rfl, HB3.out.trans (hc.mono HB3.out.size)⟩
  | true =>
    obtain ⟨q1, q2⟩ := HA.out rfl
    rw [q1] at HP1
    rw [q2] at HP2
    clear q1 q2 HA
    go_enter Try.func5, Try.ntmps5
    have HT0 := Lib.hid trivial
    go_wp2_with (first
      | (at_builtin
         have q0 := HT0.out
         refine wpList_append_sl rfl _ _ rfl w.heap.size _ 0 [] rfl (own0_str w) _ _ _ xs rfl HNX.out (HB.out.alloc _) (by have := HNX.out; have := HL2.out; simp; omega) (by simp) ?_
         intro v2 w2 ho2 hg2
         rw [List.nil_append, List.length_nil, Nat.zero_add] at ho2
         have HO2 := Lib.hid ho2
         have HB2 := Lib.hid (((Below.refl _ w).alloc (Nat.le_refl _) _).grown hg2 (by simp) (fun k e => by cases e; exact Nat.le_refl _))
         clear ho2 hg2 HT0 q0)
      | (at_builtin
         refine wpList_append_sl rfl _ _ rfl w.heap.size _ _ xs rfl HO2.out _ _ _ ys rfl HNY.out (HB'.out.below HB2.out (Nat.le_refl _)) (by have := HNX.out; have := HNY.out; have := HL2.out; omega) HB2.out.size ?_
         intro v3 w3 ho3 hg3
         have HB3 := Lib.hid (HB2.out.grown hg3 HB2.out.size (fun k hk => (HO2.out.lt k hk).1))
         obtain ⟨hn3, A3, cap3, hv3, hB3⟩ := Sl.own ho3
         rw [txts_length] at hv3
         obtain ⟨n3, hn3e⟩ : ∃ n3, n3 = (xs ++ ys).length := ⟨_, rfl⟩
         rw [← hn3e] at hv3
         subst hv3
         have HN3 := Lib.hid hn3e
         have HBS3 := Lib.hid hB3
         have HT3 := Lib.hid trivial
         clear ho3 hg3 hB3 hn3 hn3e HO2 HB2)
      | (at_builtin
         have q0 := HT3.out
         refine wpList_append_sl rfl _ _ rfl w3.heap.size _ 0 [] rfl (own0_str w3) _ _ _ ys rfl HNY.out ((HB'.out.below HB3.out (Nat.le_refl _)).alloc _) (by have := HNY.out; have := HL2.out; simp; omega) (by simp) ?_
         intro v4 w4 ho4 hg4
         rw [List.nil_append, List.length_nil, Nat.zero_add] at ho4
         have HO4 := Lib.hid ho4
         have HC4 := Lib.hid (((Below.refl _ w3).alloc (Nat.le_refl _) _).grown hg4 (by simp) (fun k e => by cases e; exact Nat.le_refl _))
         clear ho4 hg4 HT3 q0)
      | (at_builtin
         refine wpList_append_sl rfl _ _ rfl w3.heap.size _ _ ys rfl HO4.out _ _ _ xs rfl HNX.out (HB.out.below (HB3.out.trans (HC4.out.mono HB3.out.size)) (Nat.le_refl _)) (by have := HNX.out; have := HNY.out; have := HL2.out; omega) HC4.out.size ?_
         intro v5 w5 ho5 hg5
         have HC5 := Lib.hid (HC4.out.grown hg5 HC4.out.size (fun k hk => (HO4.out.lt k hk).1))
         obtain ⟨hn5, A5, cap5, hv5, hB5⟩ := Sl.own ho5
         rw [txts_length] at hv5
         obtain ⟨n5, hn5e⟩ : ∃ n5, n5 = (ys ++ xs).length := ⟨_, rfl⟩
         rw [← hn5e] at hv5
         subst hv5
         have HN5 := Lib.hid hn5e
         have HBS5 := Lib.hid hB5
         clear ho5 hg5 hB5 hn5 hn5e HO4 HC4)
      | (go_at_call 11
         refine (HX.out _ _ _ _ _ HBS3.out HN3.out HLX.out HC5.out).mono ?_
         rintro e w6 ⟨rfl, hb6⟩
         have HC6 := Lib.hid (HC5.out.trans (hb6.mono HC5.out.size))
         have HD6 := Lib.hid hb6
         clear hb6 HC5)
      | (go_at_call 11
         refine (HY.out _ _ _ _ _ HBS5.out HN5.out HLY.out HD6.out).mono ?_
         rintro e w7 ⟨rfl, hb7⟩
         have HC7 := Lib.hid (HC6.out.trans (hb7.mono HC6.out.size))
         clear hb7 HC6 HD6)
      | (go_at_call 11
         refine (HX.out _ _ _ _ _ HBS3.out HN3.out HLX.out HC7.out).mono ?_
         rintro e w8 ⟨rfl, hb8⟩
         have HC8 := Lib.hid (HC7.out.trans (hb8.mono HC7.out.size))
         clear hb8 HC7)
      | (go_at_call 11
         refine (HP1.out _ (HB3.out.trans (HC8.out.mono HB3.out.size))).mono ?_
         rintro e w9 ⟨rfl, hb9⟩
         have HC9 := Lib.hid (HC8.out.trans (hb9.mono HC8.out.size))
         clear hb9 HC8)
      | (go_at_call 11
         refine (HP2.out _ (HB3.out.trans (HC9.out.mono HB3.out.size))).mono ?_
         rintro e w10 ⟨rfl, hb10⟩
         have HC10 := Lib.hid (HC9.out.trans (hb10.mono HC9.out.size))
         clear hb10 HC9)
      | (go_at_call 6; refine (HLV.out _).mono ?_; rintro e w11 ⟨rfl, hb11⟩))
    go_ret
    have hc := HC10.out.trans (hb11.mono HC10.out.size)
    exact ⟨rfl, HB3.out.trans (hc.mono HB3.out.size)⟩
end Go.Proofs.Ytoagamdhfaebgaa
