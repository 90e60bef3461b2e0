/- What is asked of the program's layer 8, and the statements' walks. Conditions: those that each theorem names. -/
import Derived.Test.YtfmhpicnajeflaaRhB
import Derived.Test.YtfmhpicnajeflaaRhC
import Derived.Test.YtfmhpicnajeflaaBytesEq
namespace Go.Proofs.Ytfmhpicnajeflaa
open Go.RowKit
set_option linter.unusedVariables false
set_option maxRecDepth 100000

/-- What is asked: Put of whatever bytes (m: how many at most), Get of whatever text. -/
structure HexOk (m : Nat) : Prop where
  put : ∀ w A cap n bs, Bs w A cap bs → n = bs.length → bs.length ≤ m → Calls Try.prog 7 #[.slice A n cap] w fun e w' => e = .returned (.string (strOf (hexOf bs))) ∧ Below w.heap.size w w'
  get : ∀ w t, t.length ≤ 140737488351232 → Calls Try.prog 6 #[.string (strOf t)] w fun e w' => Below w.heap.size w w' ∧ ((∃ bs A cap, unhex t = some bs ∧ e = .returned (.tuple #[.slice A bs.length cap, .bool true]) ∧ Bs w' A cap bs) ∨ (unhex t = none ∧ ∃ A cap, e = .returned (.tuple #[.slice A 0 cap, .bool false]) ∧ Bs w' A cap []))
theorem ex_hex : hexOf [1, 255] = [48, 49, 102, 102] := by rfl
theorem hexlive_any {m : Nat} (ok : HexOk m) (hm : 2 ≤ m) (w : World) : Calls Try.prog 10 #[] w fun e w' => e = .returned (.bool true) ∧ Below w.heap.size w w' := by
  have HP := Lib.hid (ok.put (w.alloc (.cells #[.int .u8 1, .int .u8 255] 5)) (some ⟨w.heap.size, 0, none⟩) 2 2 [1, 255] (Bs.lit w _ _ [1, 255] rfl (by decide)) rfl hm)
  have HB0 : Hid (Below w.heap.size w (w.alloc (.cells #[.int .u8 1, .int .u8 255] 5))) := Lib.hid ((Below.refl _ w).alloc (Nat.le_refl _) _)
  rw [ex_hex] at HP
  go_enter Try.func10, Try.ntmps10
  go_wp2_with (go_at_call 7; refine HP.out.mono ?_; rintro e w1 ⟨rfl, hb1⟩; have HB1 := Lib.hid (HB0.out.trans (hb1.mono HB0.out.size)); clear hb1)
  go_ret
  exact ⟨ret_bool' (by rw [show (strOf [48, 49, 102, 102]) = ⟨#[48, 49, 102, 102]⟩ from rfl]; simp), HB1.out⟩

theorem hexgets_walk {m : Nat} (ok : HexOk m) (hm : 2 ≤ m) (w : World) (t : List UInt8) (ht : t.length ≤ 140737488351232) :
    Calls Try.prog 4 #[.string (strOf t)] w fun e w' => e = .returned (.bool true) ∧ Below w.heap.size w w' := by
  have HLV : Hid (∀ w, Calls Try.prog 10 #[] w fun e w' => e = .returned (.bool true) ∧ Below w.heap.size w w') := Lib.hid (hexlive_any ok hm)
  have HG := Lib.hid (ok.get w t ht)
  have HR := Lib.hid (fun w => rhexget_any w t ht)
  obtain ⟨str, hstr⟩ : ∃ str, str = strOf t := ⟨_, rfl⟩
  rw [← hstr] at HG HR ⊢
  clear hstr ok
  cases hu : unhex t with
  | none =>
    have HU := Lib.hid hu
    clear hu
    go_enter Try.func4, Try.ntmps4
    go_wp2_with (first
      | (go_at_call 6
         refine HG.out.mono ?_
         rintro e w1 ⟨hb1, ⟨bs, _, _, hx, _⟩ | ⟨_, A1, cap1, rfl, hB1⟩⟩
         · exact absurd (HU.out.symm.trans hx) (by simp)
         have HB1 := Lib.hid hb1
         have HBS := Lib.hid hB1
         clear hb1 hB1)
      | (go_at_call 11
         refine (HR.out _).mono ?_
         rintro e w2 ⟨hb2, ⟨bs, _, _, hx, _⟩ | ⟨_, rfl⟩⟩
         · exact absurd (HU.out.symm.trans hx) (by simp)
         have HB2 := Lib.hid (HB1.out.trans (hb2.mono HB1.out.size))
         have HBS2 := Lib.hid (HBS.out.below hb2 (Nat.le_refl _))
         clear hb2)
      | (go_at_call 9; refine (bytes_n _ _ _ _ _ _ [] [] _ rfl rfl HBS2.out (bs_nil _)).mono ?_; rintro e w3 ⟨rfl, rfl⟩)
      | (go_at_call 10; refine (HLV.out _).mono ?_; rintro e w6 ⟨rfl, hb6⟩))
    go_ret
    exact ⟨rfl, HB2.out.trans (hb6.mono HB2.out.size)⟩
  | some bs =>
    have HU := Lib.hid hu
    clear hu
    obtain ⟨n, hn⟩ : ∃ n, n = bs.length := ⟨_, rfl⟩
    have HN := Lib.hid hn
    clear hn
    go_enter Try.func4, Try.ntmps4
    go_wp2_with (first
      | (go_at_call 6
         refine HG.out.mono ?_
         rintro e w1 ⟨hb1, ⟨bs', A1, cap1, hx, rfl, hB1⟩ | ⟨hx, _⟩⟩
         case inr => exact absurd (HU.out.symm.trans hx) (by simp)
         obtain rfl : bs = bs' := by have := HU.out.symm.trans hx; injection this
         rw [← HN.out]
         have HB1 := Lib.hid hb1
         have HBS := Lib.hid hB1
         clear hb1 hB1 hx)
      | (go_at_call 11
         refine (HR.out _).mono ?_
         rintro e w2 ⟨hb2, ⟨bs', A2, cap2, hx, rfl, hB2⟩ | ⟨hx, _⟩⟩
         case inr => exact absurd (HU.out.symm.trans hx) (by simp)
         obtain rfl : bs = bs' := by have := HU.out.symm.trans hx; injection this
         rw [← HN.out]
         have HB2 := Lib.hid (HB1.out.trans (hb2.mono HB1.out.size))
         have HBS2 := Lib.hid (HBS.out.below hb2 (Nat.le_refl _))
         have HBS3 := Lib.hid hB2
         clear hb2 hB2 hx)
      | (go_at_call 9; refine (bytes_n _ _ _ _ _ _ bs bs _ HN.out HN.out HBS2.out HBS3.out).mono ?_; rintro e w3 ⟨rfl, rfl⟩)
      | (go_at_call 10; refine (HLV.out _).mono ?_; rintro e w6 ⟨rfl, hb6⟩))
    go_ret
    exact ⟨rfl, HB2.out.trans (hb6.mono HB2.out.size)⟩

set_option maxHeartbeats 1000000 in
theorem hexputs_walk {m : Nat} (ok : HexOk m) (hm : 2 ≤ m) (w : World) (A : Option Addr) (cap : Nat) (bs : List UInt8) (hb : Bs w A cap bs) (hl : bs.length ≤ m) (hl2 : bs.length ≤ 70368744175616) :
    Calls Try.prog 3 #[.slice A bs.length cap] w fun e w' => e = .returned (.bool true) ∧ Below w.heap.size w w' := by
  have HLV : Hid (∀ w, Calls Try.prog 10 #[] w fun e w' => e = .returned (.bool true) ∧ Below w.heap.size w w') := Lib.hid (hexlive_any ok hm)
  have hu := unhex_hexOf bs
  have HPT : Hid (∀ w', Below w.heap.size w w' → Calls Try.prog 7 #[.slice A bs.length cap] w' fun e w2 => e = .returned (.string (strOf (hexOf bs))) ∧ Below w'.heap.size w' w2) := Lib.hid (fun w' hbl => ok.put w' A cap _ bs (hb.below hbl (Nat.le_refl _)) rfl hl)
  have HRP : Hid (∀ w', Below w.heap.size w w' → Calls Try.prog 8 #[.slice A bs.length cap] w' fun e w2 => e = .returned (.string (strOf (hexOf bs))) ∧ Below w'.heap.size w' w2) := Lib.hid (fun w' hbl => rhexput_any w' (hb.below hbl (Nat.le_refl _)) rfl (by omega))
  have HGT := Lib.hid (fun w' => ok.get w' (hexOf bs) (by rw [hexOf_length]; omega))
  obtain ⟨str, hstr⟩ : ∃ str, str = strOf (hexOf bs) := ⟨_, rfl⟩
  obtain ⟨n, hn⟩ : ∃ n, n = bs.length := ⟨_, rfl⟩
  rw [← hstr] at HPT HRP HGT
  rw [← hn] at HPT HRP ⊢
  have HB := Lib.hid hb
  have HU := Lib.hid hu
  have HN := Lib.hid hn
  clear hstr ok hu hb hn hl hl2
  go_enter Try.func3, Try.ntmps3
  have HT0 := Lib.hid trivial
  go_wp2_with (first
    | (go_at_call 7
       refine (HPT.out _ (Below.refl _ _)).mono ?_
       rintro e w1 ⟨rfl, hb1⟩
       have HB1 := Lib.hid hb1
       clear hb1 HT0)
    | (go_at_call 6
       refine (HGT.out _).mono ?_
       rintro e w2 ⟨hb2, ⟨bs', A2, cap2, hx, rfl, hB2⟩ | ⟨hx, _⟩⟩
       case inr => exact absurd (HU.out.symm.trans hx) (by simp)
       obtain rfl : bs = bs' := by have := HU.out.symm.trans hx; injection this
       rw [← HN.out]
       have HB2 := Lib.hid (HB1.out.trans (hb2.mono HB1.out.size))
       have HBS2 := Lib.hid hB2
       clear hb2 hB2 hx)
    | (go_at_call 7
       refine (HPT.out _ HB2.out).mono ?_
       rintro e w3 ⟨rfl, hb3⟩
       have HB3 := Lib.hid (HB2.out.trans (hb3.mono HB2.out.size))
       have HBS3 := Lib.hid (HBS2.out.below hb3 (Nat.le_refl _))
       clear hb3)
    | (go_at_call 8
       refine (HRP.out _ HB3.out).mono ?_
       rintro e w4 ⟨rfl, hb4⟩
       have HB4 := Lib.hid (HB3.out.trans (hb4.mono HB3.out.size))
       have HBS4 := Lib.hid (HBS3.out.below hb4 (Nat.le_refl _))
       clear hb4)
    | (go_at_call 9; refine (bytes_n _ _ _ _ _ _ bs bs _ HN.out HN.out HBS4.out (HB.out.below HB4.out (Nat.le_refl _))).mono ?_; rintro e w5 ⟨rfl, rfl⟩)
    | (go_at_call 10; refine (HLV.out _).mono ?_; rintro e w6 ⟨rfl, hb6⟩))
  go_ret
  exact ⟨rfl, HB4.out.trans (hb6.mono HB4.out.size)⟩

theorem strOf_app (a b : List UInt8) : strOf a ++ strOf b = strOf (a ++ b) := by
  unfold strOf
  apply ByteArray.ext
  simp
set_option maxHeartbeats 1000000 in
theorem hexjoins_walk {m : Nat} (ok : HexOk m) (hm : 2 ≤ m) (w : World) (A : Option Addr) (cap : Nat) (xs : List UInt8) (hb : Bs w A cap xs) (A' : Option Addr) (cap' : Nat) (ys : List UInt8) (hb' : Bs w A' cap' ys) (hl : xs.length + ys.length ≤ m) (hl2 : xs.length + ys.length ≤ 70368744175616) :
    Calls Try.prog 5 #[.slice A xs.length cap, .slice A' ys.length cap'] w fun e w' => e = .returned (.bool true) ∧ Below w.heap.size w w' := by
  obtain ⟨i0, hi, hz0, hz1, hz2⟩ := info_parts info_u8
  have HLV : Hid (∀ w, Calls Try.prog 10 #[] w fun e w' => e = .returned (.bool true) ∧ Below w.heap.size w w') := Lib.hid (hexlive_any ok hm)
  have HP1 : Hid (∀ w', Below w.heap.size w w' → Calls Try.prog 7 #[.slice A xs.length cap] w' fun e w2 => e = .returned (.string (strOf (hexOf xs))) ∧ Below w'.heap.size w' w2) := Lib.hid (fun w' hbl => ok.put w' A cap _ xs (hb.below hbl (Nat.le_refl _)) rfl (by omega))
  have HP2 : Hid (∀ w', Below w.heap.size w w' → Calls Try.prog 7 #[.slice A' ys.length cap'] w' fun e w2 => e = .returned (.string (strOf (hexOf ys))) ∧ Below w'.heap.size w' w2) := Lib.hid (fun w' hbl => ok.put w' A' cap' _ ys (hb'.below hbl (Nat.le_refl _)) rfl (by omega))
  have HP3 : Hid (∀ w' A3 cap3 n3, Bs w' A3 cap3 (xs ++ ys) → n3 = (xs ++ ys).length → Calls Try.prog 7 #[.slice A3 n3 cap3] w' fun e w2 => e = .returned (.string (strOf (hexOf (xs ++ ys)))) ∧ Below w'.heap.size w' w2) := Lib.hid (fun w' A3 cap3 n3 hb hn => ok.put w' A3 cap3 n3 _ hb hn (by rw [List.length_append]; exact hl))
  obtain ⟨nx, hnx⟩ : ∃ nx, nx = xs.length := ⟨_, rfl⟩
  obtain ⟨ny, hny⟩ : ∃ ny, ny = ys.length := ⟨_, rfl⟩
  obtain ⟨s1, hs1⟩ : ∃ s1, s1 = strOf (hexOf xs) := ⟨_, rfl⟩
  obtain ⟨s2, hs2⟩ : ∃ s2, s2 = strOf (hexOf ys) := ⟨_, rfl⟩
  have hs3 : strOf (hexOf (xs ++ ys)) = s1 ++ s2 := by rw [hs1, hs2, strOf_app, hexOf_append]
  have z1 : s1.size = 2 * nx := by rw [hs1, str_size, hexOf_length, hnx]
  have z2 : s2.size = 2 * ny := by rw [hs2, str_size, hexOf_length, hny]
  have z3 : (s1 ++ s2).size = 2 * nx + 2 * ny := by rw [← hs3, str_size, hexOf_length, List.length_append, hnx, hny]; omega
  rw [← hnx, ← hs1] at HP1
  rw [← hny, ← hs2] at HP2
  rw [hs3] at HP3
  rw [← hnx, ← hny] at hl2 ⊢
  have HB := Lib.hid hb
  have HB' := Lib.hid hb'
  have HNX := Lib.hid hnx
  have HNY := Lib.hid hny
  have HL2 := Lib.hid hl2
  clear ok hb hb' hl hs1 hs2 hs3 hnx hny
  go_enter Try.func5, Try.ntmps5
  have HT0 := Lib.hid trivial
  go_wp2_with (first
    | (at_builtin
       have q0 := HT0.out
       refine wpList_append_bs rfl _ _ 22 rfl w.heap.size 5 i0 Try.underlying22 hi hz0 hz1 hz2 _ 0 [] rfl (own0 w) _ _ _ xs rfl HNX.out (HB.out.alloc _) (by have := HNX.out; have := HL2.out; simp; omega) (by simp) ?_
       intro v2 w2 ho2 hg2
       rw [List.nil_append, List.length_nil, Nat.zero_add] at ho2
       have HO2 := Lib.hid ho2
       have HB2 := Lib.hid (((Below.refl _ w).alloc (Nat.le_refl _) _).grown hg2 (by simp) (fun k e => by cases e; exact Nat.le_refl _))
       clear ho2 hg2 HT0 q0)
    | (at_builtin
       refine wpList_append_bs rfl _ _ 22 rfl w.heap.size 5 i0 Try.underlying22 hi hz0 hz1 hz2 _ _ xs rfl HO2.out _ _ _ ys rfl HNY.out (HB'.out.below HB2.out (Nat.le_refl _)) (by have := HNX.out; have := HNY.out; have := HL2.out; simp; omega) HB2.out.size ?_
       intro v3 w3 ho3 hg3
       obtain ⟨hn3, A3, cap3, hv3, hB3⟩ := Bs.own ho3
       obtain ⟨n3, hn3e⟩ : ∃ n3, n3 = (xs ++ ys).length := ⟨_, rfl⟩
       rw [← hn3e] at hv3
       subst hv3
       have HN3 := Lib.hid hn3e
       have HB3 := Lib.hid (HB2.out.grown hg3 HB2.out.size (fun k hk => (HO2.out.lt k hk).1))
       have HBS3 := Lib.hid hB3
       clear ho3 hg3 hB3 hn3 hn3e)
    | (go_at_call 7
       refine (HP3.out _ _ _ _ HBS3.out HN3.out).mono ?_
       rintro e w4 ⟨rfl, hb4⟩
       have HB4 := Lib.hid (HB3.out.trans (hb4.mono HB3.out.size))
       clear hb4 HP3)
    | (go_at_call 7
       refine (HP1.out _ HB4.out).mono ?_
       rintro e w5 ⟨rfl, hb5⟩
       have HB5 := Lib.hid (HB4.out.trans (hb5.mono HB4.out.size))
       clear hb5 HP1)
    | (go_at_call 7
       refine (HP2.out _ HB5.out).mono ?_
       rintro e w6 ⟨rfl, hb6⟩
       have HB6 := Lib.hid (HB5.out.trans (hb6.mono HB5.out.size))
       clear hb6 HP2)
    | (go_at_call 10; refine (HLV.out _).mono ?_; rintro e w7 ⟨rfl, hb7⟩))
  go_ret
  exact ⟨rfl, HB6.out.trans (hb7.mono HB6.out.size)⟩
end Go.Proofs.Ytfmhpicnajeflaa
