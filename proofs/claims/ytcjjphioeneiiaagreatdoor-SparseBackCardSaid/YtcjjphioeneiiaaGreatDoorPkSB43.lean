/- Several texts in one: SxC, SxD. What each proves, and its conditions, stands at its own head. -/
import Derived.Test.YtcjjphioeneiiaaGreatDoorPkSB17
import Derived.Test.YtcjjphioeneiiaaGreatDoorPkSB40
import Derived.Test.YtcjjphioeneiiaaGreatDoorPkSB16
import Derived.Test.YtcjjphioeneiiaaGreatDoorPkSB8
import Derived.Lib.AppendZerosOnto
/- gather: what a function tells of each thing of a list, as texts and as numbers. Conditions: those that each theorem names. -/
namespace Go.Proofs.YtcjjphioeneiiaaGreatDoor
open Go.RowKit
set_option linter.unusedVariables false
set_option maxRecDepth 100000

/-- No row yet. -/
theorem row_none (w : World) (base k : Nat) (t : TypeId) : w.ownsRow base t k (.slice none 0 0) 0 [] := ⟨by simp, .inl ⟨rfl, rfl⟩⟩

set_option maxHeartbeats 4000000 in
theorem gat_ens {S : Nat → Nat → Prop} (w : World) {A : Option Addr} {cap n : Nat} {l : List En} (h : Lst 2 (S 3) (enR S) w A cap l) (hn : n = l.length) (hm : n ≤ 1000) (kf : Nat) (caps : Array Value) (henter : Enters Tryz.prog kf) (f : En → List UInt8)
 (hp : ∀ x ∈ l, ∀ A1 cap1, Lst 2 (S 0) vlR w A1 cap1 x.values → ∀ wr, Below w.heap.size w wr → Calls Tryz.prog kf (#[.agg #[.string (strOf x.name), .slice A1 x.values.length cap1]] ++ caps) wr fun e w' => e = .returned (.string (strOf (f x))) ∧ Below wr.heap.size wr w') :
 Calls Tryz.prog 192 #[.slice A n cap, .func (.func kf) #[] caps] w fun e w' => ∃ A' cap', e = .returned (.slice A' n cap') ∧ Sl w' A' cap' (txts (l.map f)) ∧ Below w.heap.size w w' := by
 have q1 : n ≤ cap := by have := h.l_le; omega
 have q2 := h.l_max
 unfold maxLen at q2
 have hent : ∀ (args : Array Value) (w : World), (callFunc kf args).run Tryz.prog w = .ok (.enter kf args) w := henter
 have H := Lib.hid h
 have HN := Lib.hid hn
 have HM := Lib.hid hm
 have HP := Lib.hid hp
 clear h hn hp henter hm
 go_enter Tryz.func192, Tryz.ntmps192
 go_wp2
 go_loopw [5, 7, 10] (fun v u x wr => ∃ i : Nat, x = .int .i64 (i : Int) ∧ i ≤ n ∧ wr.ownsRow w.heap.size 9 1 v ((l.map f).take i).length (txts ((l.map f).take i)) ∧ Below w.heap.size w wr) (fun v u x _ => n - (intOf x).toNat)
 case atStart => exact ⟨0, rfl, Nat.zero_le _, row_none w _ 1 _, Below.refl _ _⟩
 case round =>
  obtain ⟨i, rfl, hi, hown, hbel⟩ := hrel
  have HOWN := Lib.hid hown
  have hb0 := Lib.hid hbel
  clear hown hbel
  by_cases hlt : i < n
  ·have g1 : decide ((i : Int) < (n : Int)) = true := decide_eq_true (by omega)
   obtain ⟨x, hx⟩ : ∃ x, l[i]? = some x := ⟨_, List.getElem?_eq_getElem (by have := HN.out; omega)⟩
   have HTK : Hid ((l.map f).take (i + 1) = (l.map f).take i ++ [f x]) := Lib.hid (split_take (by rw [List.getElem?_map, hx]; rfl))
   have HLN : Hid (((l.map f).take i).length ≤ 1000) := Lib.hid (by have := HM.out; rw [List.length_take]; omega)
   obtain ⟨ge, oe, A1, cap1, rfl, _, hc, hl⟩ := en_at H.out hx
   have HCK := Lib.hid (HP.out x (List.mem_of_getElem? hx) A1 cap1 hl)
   obtain ⟨nv, hnv⟩ : ∃ nv, nv = x.values.length := ⟨_, rfl⟩
   obtain ⟨sn, hsn⟩ : ∃ sn, sn = strOf x.name := ⟨_, rfl⟩
   rw [← hnv] at hc HCK
   rw [← hsn] at hc HCK
   obtain ⟨c0, c1⟩ := hc _ hb0.out
   obtain ⟨fv, hfv⟩ : ∃ fv, fv = strOf (f x) := ⟨_, rfl⟩
   have HFV := Lib.hid hfv
   rw [← hfv] at HCK
   clear hfv hx hc hl hnv hsn
   go_wp2_with (first
    | (go_at_fn kf; refine (HCK.out _ (hb0.out.alloc hb0.out.size _)).mono ?_; rintro e w2 ⟨rfl, hb⟩; have HO2 := Lib.hid (own_below (own_below HOWN.out ((Below.refl _ _).alloc (Nat.le_refl _) _)) hb); have HB2 := Lib.hid ((hb0.out.alloc hb0.out.size _).trans (hb.mono (hb0.out.alloc hb0.out.size _).size)); clear hb)
    | (at_builtin; refine wpList_append_sl rfl _ _ rfl w.heap.size _ _ _ rfl (own_below HO2.out ((Below.refl _ _).alloc (Nat.le_refl _) _)) _ 1 1 [f x] rfl rfl (sl_txt1 _ _ _ _ HFV.out) (by have := HLN.out; show _ + 1 ≤ 1000000; omega) (by have := HB2.out.size; simp; omega) ?_; intro va2 w3 ho hg; have HOA := Lib.hid ho; have HBA := Lib.hid ((HB2.out.alloc HB2.out.size _).grown hg (by have := HB2.out.size; simp; omega) (fun k hk => (HO2.out.lt k hk).1)); clear ho hg))
   go_roundw
   case rel => exact ⟨i + 1, by go_num, by omega, (by rw [HTK.out, List.length_append]; exact HOA.out), HBA.out⟩
   case measure => simp [intOf]; omega
  ·have g1 : decide ((i : Int) < (n : Int)) = false := decide_eq_false (by omega)
   have HF : Hid ((l.map f).take i = l.map f) := Lib.hid (List.take_of_length_le (by rw [List.length_map]; have := HN.out; omega))
   have ho := HOWN.out
   rw [HF.out] at ho
   obtain ⟨_, Al, capl, hvl, hsl⟩ := Sl.own ho
   rw [txts_length] at hvl
   rw [List.length_map, ← HN.out] at hvl
   subst hvl
   have HSL := Lib.hid hsl
   clear ho hsl
   go_wp2
   go_ret
   exact ⟨Al, capl, rfl, HSL.out, hb0.out⟩

set_option maxHeartbeats 4000000 in
theorem gat_mss {S : Nat → Nat → Prop} (w : World) {A : Option Addr} {cap n : Nat} {l : List Ms} (h : Lst 3 (S 4) (msR S) w A cap l) (hn : n = l.length) (hm : n ≤ 1000) (kf : Nat) (caps : Array Value) (henter : Enters Tryz.prog kf) (f : Ms → List UInt8)
 (hp : ∀ x ∈ l, ∀ A1 cap1 A2 cap2, Lst 7 (S 1) fdR w A1 cap1 x.fields → Lst 1 (S 2) inR w A2 cap2 x.barred → ∀ wr, Below w.heap.size w wr → Calls Tryz.prog kf (#[.agg #[.string (strOf x.name), .slice A1 x.fields.length cap1, .slice A2 x.barred.length cap2]] ++ caps) wr fun e w' => e = .returned (.string (strOf (f x))) ∧ Below wr.heap.size wr w') :
 Calls Tryz.prog 194 #[.slice A n cap, .func (.func kf) #[] caps] w fun e w' => ∃ A' cap', e = .returned (.slice A' n cap') ∧ Sl w' A' cap' (txts (l.map f)) ∧ Below w.heap.size w w' := by
 have q1 : n ≤ cap := by have := h.l_le; omega
 have q2 := h.l_max
 unfold maxLen at q2
 have hent : ∀ (args : Array Value) (w : World), (callFunc kf args).run Tryz.prog w = .ok (.enter kf args) w := henter
 have H := Lib.hid h
 have HN := Lib.hid hn
 have HM := Lib.hid hm
 have HP := Lib.hid hp
 clear h hn hp henter hm
 go_enter Tryz.func194, Tryz.ntmps194
 go_wp2
 go_loopw [5, 7, 10] (fun v u x wr => ∃ i : Nat, x = .int .i64 (i : Int) ∧ i ≤ n ∧ wr.ownsRow w.heap.size 9 1 v ((l.map f).take i).length (txts ((l.map f).take i)) ∧ Below w.heap.size w wr) (fun v u x _ => n - (intOf x).toNat)
 case atStart => exact ⟨0, rfl, Nat.zero_le _, row_none w _ 1 _, Below.refl _ _⟩
 case round =>
  obtain ⟨i, rfl, hi, hown, hbel⟩ := hrel
  have HOWN := Lib.hid hown
  have hb0 := Lib.hid hbel
  clear hown hbel
  by_cases hlt : i < n
  ·have g1 : decide ((i : Int) < (n : Int)) = true := decide_eq_true (by omega)
   obtain ⟨x, hx⟩ : ∃ x, l[i]? = some x := ⟨_, List.getElem?_eq_getElem (by have := HN.out; omega)⟩
   have HTK : Hid ((l.map f).take (i + 1) = (l.map f).take i ++ [f x]) := Lib.hid (split_take (by rw [List.getElem?_map, hx]; rfl))
   have HLN : Hid (((l.map f).take i).length ≤ 1000) := Lib.hid (by have := HM.out; rw [List.length_take]; omega)
   obtain ⟨ge, oe, A1, cap1, A2, cap2, rfl, _, hc, hl, hl2⟩ := ms_at H.out hx
   have HCK := Lib.hid (HP.out x (List.mem_of_getElem? hx) A1 cap1 A2 cap2 hl hl2)
   obtain ⟨nf, hnf⟩ : ∃ nf, nf = x.fields.length := ⟨_, rfl⟩
   obtain ⟨nb, hnb⟩ : ∃ nb, nb = x.barred.length := ⟨_, rfl⟩
   obtain ⟨sn, hsn⟩ : ∃ sn, sn = strOf x.name := ⟨_, rfl⟩
   rw [← hnf, ← hnb] at hc HCK
   rw [← hsn] at hc HCK
   obtain ⟨c0, c1, c2⟩ := hc _ hb0.out
   obtain ⟨fv, hfv⟩ : ∃ fv, fv = strOf (f x) := ⟨_, rfl⟩
   have HFV := Lib.hid hfv
   rw [← hfv] at HCK
   clear hfv hx hc hl hl2 hnf hnb hsn
   go_wp2_with (first
    | (go_at_fn kf; refine (HCK.out _ (hb0.out.alloc hb0.out.size _)).mono ?_; rintro e w2 ⟨rfl, hb⟩; have HO2 := Lib.hid (own_below (own_below HOWN.out ((Below.refl _ _).alloc (Nat.le_refl _) _)) hb); have HB2 := Lib.hid ((hb0.out.alloc hb0.out.size _).trans (hb.mono (hb0.out.alloc hb0.out.size _).size)); clear hb)
    | (at_builtin; refine wpList_append_sl rfl _ _ rfl w.heap.size _ _ _ rfl (own_below HO2.out ((Below.refl _ _).alloc (Nat.le_refl _) _)) _ 1 1 [f x] rfl rfl (sl_txt1 _ _ _ _ HFV.out) (by have := HLN.out; show _ + 1 ≤ 1000000; omega) (by have := HB2.out.size; simp; omega) ?_; intro va2 w3 ho hg; have HOA := Lib.hid ho; have HBA := Lib.hid ((HB2.out.alloc HB2.out.size _).grown hg (by have := HB2.out.size; simp; omega) (fun k hk => (HO2.out.lt k hk).1)); clear ho hg))
   go_roundw
   case rel => exact ⟨i + 1, by go_num, by omega, (by rw [HTK.out, List.length_append]; exact HOA.out), HBA.out⟩
   case measure => simp [intOf]; omega
  ·have g1 : decide ((i : Int) < (n : Int)) = false := decide_eq_false (by omega)
   have HF : Hid ((l.map f).take i = l.map f) := Lib.hid (List.take_of_length_le (by rw [List.length_map]; have := HN.out; omega))
   have ho := HOWN.out
   rw [HF.out] at ho
   obtain ⟨_, Al, capl, hvl, hsl⟩ := Sl.own ho
   rw [txts_length] at hvl
   rw [List.length_map, ← HN.out] at hvl
   subst hvl
   have HSL := Lib.hid hsl
   clear ho hsl
   go_wp2
   go_ret
   exact ⟨Al, capl, rfl, HSL.out, hb0.out⟩

set_option maxHeartbeats 4000000 in
theorem gat_vls {S : Nat → Prop} (w : World) {A : Option Addr} {cap n : Nat} {l : List Vl} (h : Lst 2 S vlR w A cap l) (hn : n = l.length) (hm : n ≤ 1000) (kf : Nat) (caps : Array Value) (henter : Enters Tryz.prog kf) (f : Vl → List UInt8)
 (hp : ∀ x ∈ l, ∀ wr, Below w.heap.size w wr → Calls Tryz.prog kf (#[.agg #[.string (strOf x.name), .int .i64 x.num]] ++ caps) wr fun e w' => e = .returned (.string (strOf (f x))) ∧ Below wr.heap.size wr w') :
 Calls Tryz.prog 196 #[.slice A n cap, .func (.func kf) #[] caps] w fun e w' => ∃ A' cap', e = .returned (.slice A' n cap') ∧ Sl w' A' cap' (txts (l.map f)) ∧ Below w.heap.size w w' := by
 have q1 : n ≤ cap := by have := h.l_le; omega
 have q2 := h.l_max
 unfold maxLen at q2
 have hent : ∀ (args : Array Value) (w : World), (callFunc kf args).run Tryz.prog w = .ok (.enter kf args) w := henter
 have H := Lib.hid h
 have HN := Lib.hid hn
 have HM := Lib.hid hm
 have HP := Lib.hid hp
 clear h hn hp henter hm
 go_enter Tryz.func196, Tryz.ntmps196
 go_wp2
 go_loopw [5, 7, 10] (fun v u x wr => ∃ i : Nat, x = .int .i64 (i : Int) ∧ i ≤ n ∧ wr.ownsRow w.heap.size 9 1 v ((l.map f).take i).length (txts ((l.map f).take i)) ∧ Below w.heap.size w wr) (fun v u x _ => n - (intOf x).toNat)
 case atStart => exact ⟨0, rfl, Nat.zero_le _, row_none w _ 1 _, Below.refl _ _⟩
 case round =>
  obtain ⟨i, rfl, hi, hown, hbel⟩ := hrel
  have HOWN := Lib.hid hown
  have hb0 := Lib.hid hbel
  clear hown hbel
  by_cases hlt : i < n
  ·have g1 : decide ((i : Int) < (n : Int)) = true := decide_eq_true (by omega)
   obtain ⟨x, hx⟩ : ∃ x, l[i]? = some x := ⟨_, List.getElem?_eq_getElem (by have := HN.out; omega)⟩
   have HTK : Hid ((l.map f).take (i + 1) = (l.map f).take i ++ [f x]) := Lib.hid (split_take (by rw [List.getElem?_map, hx]; rfl))
   have HLN : Hid (((l.map f).take i).length ≤ 1000) := Lib.hid (by have := HM.out; rw [List.length_take]; omega)
   obtain ⟨ge, oe, rfl, _, hc⟩ := vl_at H.out hx
   have HCK := Lib.hid (HP.out x (List.mem_of_getElem? hx))
   obtain ⟨s0, hs0⟩ : ∃ s0, s0 = strOf x.name := ⟨_, rfl⟩
   obtain ⟨z1, hz1⟩ : ∃ z1, z1 = x.num := ⟨_, rfl⟩
   rw [← hs0, ← hz1] at hc HCK
   obtain ⟨c0, c1⟩ := hc _ hb0.out
   obtain ⟨fv, hfv⟩ : ∃ fv, fv = strOf (f x) := ⟨_, rfl⟩
   have HFV := Lib.hid hfv
   rw [← hfv] at HCK
   clear hfv hx hc hs0 hz1
   go_wp2_with (first
    | (go_at_fn kf; refine (HCK.out _ (hb0.out.alloc hb0.out.size _)).mono ?_; rintro e w2 ⟨rfl, hb⟩; have HO2 := Lib.hid (own_below (own_below HOWN.out ((Below.refl _ _).alloc (Nat.le_refl _) _)) hb); have HB2 := Lib.hid ((hb0.out.alloc hb0.out.size _).trans (hb.mono (hb0.out.alloc hb0.out.size _).size)); clear hb)
    | (at_builtin; refine wpList_append_sl rfl _ _ rfl w.heap.size _ _ _ rfl (own_below HO2.out ((Below.refl _ _).alloc (Nat.le_refl _) _)) _ 1 1 [f x] rfl rfl (sl_txt1 _ _ _ _ HFV.out) (by have := HLN.out; show _ + 1 ≤ 1000000; omega) (by have := HB2.out.size; simp; omega) ?_; intro va2 w3 ho hg; have HOA := Lib.hid ho; have HBA := Lib.hid ((HB2.out.alloc HB2.out.size _).grown hg (by have := HB2.out.size; simp; omega) (fun k hk => (HO2.out.lt k hk).1)); clear ho hg))
   go_roundw
   case rel => exact ⟨i + 1, by go_num, by omega, (by rw [HTK.out, List.length_append]; exact HOA.out), HBA.out⟩
   case measure => simp [intOf]; omega
  ·have g1 : decide ((i : Int) < (n : Int)) = false := decide_eq_false (by omega)
   have HF : Hid ((l.map f).take i = l.map f) := Lib.hid (List.take_of_length_le (by rw [List.length_map]; have := HN.out; omega))
   have ho := HOWN.out
   rw [HF.out] at ho
   obtain ⟨_, Al, capl, hvl, hsl⟩ := Sl.own ho
   rw [txts_length] at hvl
   rw [List.length_map, ← HN.out] at hvl
   subst hvl
   have HSL := Lib.hid hsl
   clear ho hsl
   go_wp2
   go_ret
   exact ⟨Al, capl, rfl, HSL.out, hb0.out⟩

set_option maxHeartbeats 4000000 in
theorem gat_fds {S : Nat → Prop} (w : World) {A : Option Addr} {cap n : Nat} {l : List Fd} (h : Lst 7 S fdR w A cap l) (hn : n = l.length) (hm : n ≤ 1000) (kf : Nat) (caps : Array Value) (henter : Enters Tryz.prog kf) (f : Fd → List UInt8)
 (hp : ∀ x ∈ l, ∀ wr, Below w.heap.size w wr → Calls Tryz.prog kf (#[fdV x] ++ caps) wr fun e w' => e = .returned (.string (strOf (f x))) ∧ Below wr.heap.size wr w') :
 Calls Tryz.prog 250 #[.slice A n cap, .func (.func kf) #[] caps] w fun e w' => ∃ A' cap', e = .returned (.slice A' n cap') ∧ Sl w' A' cap' (txts (l.map f)) ∧ Below w.heap.size w w' := by
 have q1 : n ≤ cap := by have := h.l_le; omega
 have q2 := h.l_max
 unfold maxLen at q2
 have hent : ∀ (args : Array Value) (w : World), (callFunc kf args).run Tryz.prog w = .ok (.enter kf args) w := henter
 have H := Lib.hid h
 have HN := Lib.hid hn
 have HM := Lib.hid hm
 have HP := Lib.hid hp
 clear h hn hp henter hm
 go_enter Tryz.func250, Tryz.ntmps250
 go_wp2
 go_loopw [5, 7, 10] (fun v u x wr => ∃ i : Nat, x = .int .i64 (i : Int) ∧ i ≤ n ∧ wr.ownsRow w.heap.size 9 1 v ((l.map f).take i).length (txts ((l.map f).take i)) ∧ Below w.heap.size w wr) (fun v u x _ => n - (intOf x).toNat)
 case atStart => exact ⟨0, rfl, Nat.zero_le _, row_none w _ 1 _, Below.refl _ _⟩
 case round =>
  obtain ⟨i, rfl, hi, hown, hbel⟩ := hrel
  have HOWN := Lib.hid hown
  have hb0 := Lib.hid hbel
  clear hown hbel
  by_cases hlt : i < n
  ·have g1 : decide ((i : Int) < (n : Int)) = true := decide_eq_true (by omega)
   obtain ⟨x, hx⟩ : ∃ x, l[i]? = some x := ⟨_, List.getElem?_eq_getElem (by have := HN.out; omega)⟩
   have HTK : Hid ((l.map f).take (i + 1) = (l.map f).take i ++ [f x]) := Lib.hid (split_take (by rw [List.getElem?_map, hx]; rfl))
   have HLN : Hid (((l.map f).take i).length ≤ 1000) := Lib.hid (by have := HM.out; rw [List.length_take]; omega)
   obtain ⟨ge, oe, rfl, _, hc⟩ := fd_at H.out hx
   have HCK := Lib.hid (HP.out x (List.mem_of_getElem? hx))
   unfold fdV at HCK
   obtain ⟨s0, hs0⟩ : ∃ s0, s0 = strOf x.name := ⟨_, rfl⟩
   obtain ⟨s3, hs3⟩ : ∃ s3, s3 = strOf x.ref := ⟨_, rfl⟩
   obtain ⟨s6, hs6⟩ : ∃ s6, s6 = strOf x.one := ⟨_, rfl⟩
   obtain ⟨z1, hz1⟩ : ∃ z1, z1 = x.num := ⟨_, rfl⟩
   obtain ⟨z2, hz2⟩ : ∃ z2, z2 = x.ty := ⟨_, rfl⟩
   obtain ⟨b4, hb4⟩ : ∃ b4, b4 = x.rep := ⟨_, rfl⟩
   obtain ⟨b5, hb5⟩ : ∃ b5, b5 = x.loose := ⟨_, rfl⟩
   rw [← hs0, ← hs3, ← hs6, ← hz1, ← hz2, ← hb4, ← hb5] at hc HCK
   obtain ⟨c0, c1, c2, c3, c4, c5, c6⟩ := hc _ hb0.out
   obtain ⟨fv, hfv⟩ : ∃ fv, fv = strOf (f x) := ⟨_, rfl⟩
   have HFV := Lib.hid hfv
   rw [← hfv] at HCK
   clear hfv hx hc hs0 hs3 hs6 hz1 hz2 hb4 hb5
   go_wp2_with (first
    | (go_at_fn kf; refine (HCK.out _ (hb0.out.alloc hb0.out.size _)).mono ?_; rintro e w2 ⟨rfl, hb⟩; have HO2 := Lib.hid (own_below (own_below HOWN.out ((Below.refl _ _).alloc (Nat.le_refl _) _)) hb); have HB2 := Lib.hid ((hb0.out.alloc hb0.out.size _).trans (hb.mono (hb0.out.alloc hb0.out.size _).size)); clear hb)
    | (at_builtin; refine wpList_append_sl rfl _ _ rfl w.heap.size _ _ _ rfl (own_below HO2.out ((Below.refl _ _).alloc (Nat.le_refl _) _)) _ 1 1 [f x] rfl rfl (sl_txt1 _ _ _ _ HFV.out) (by have := HLN.out; show _ + 1 ≤ 1000000; omega) (by have := HB2.out.size; simp; omega) ?_; intro va2 w3 ho hg; have HOA := Lib.hid ho; have HBA := Lib.hid ((HB2.out.alloc HB2.out.size _).grown hg (by have := HB2.out.size; simp; omega) (fun k hk => (HO2.out.lt k hk).1)); clear ho hg))
   go_roundw
   case rel => exact ⟨i + 1, by go_num, by omega, (by rw [HTK.out, List.length_append]; exact HOA.out), HBA.out⟩
   case measure => simp [intOf]; omega
  ·have g1 : decide ((i : Int) < (n : Int)) = false := decide_eq_false (by omega)
   have HF : Hid ((l.map f).take i = l.map f) := Lib.hid (List.take_of_length_le (by rw [List.length_map]; have := HN.out; omega))
   have ho := HOWN.out
   rw [HF.out] at ho
   obtain ⟨_, Al, capl, hvl, hsl⟩ := Sl.own ho
   rw [txts_length] at hvl
   rw [List.length_map, ← HN.out] at hvl
   subst hvl
   have HSL := Lib.hid hsl
   clear ho hsl
   go_wp2
   go_ret
   exact ⟨Al, capl, rfl, HSL.out, hb0.out⟩

set_option maxHeartbeats 4000000 in
theorem gat_vlz {S : Nat → Prop} (w : World) {A : Option Addr} {cap n : Nat} {l : List Vl} (h : Lst 2 S vlR w A cap l) (hn : n = l.length) (hm : n ≤ 1000) (kf : Nat) (caps : Array Value) (henter : Enters Tryz.prog kf) (f : Vl → Int)
 (hp : ∀ x ∈ l, ∀ wr, Below w.heap.size w wr → Calls Tryz.prog kf (#[.agg #[.string (strOf x.name), .int .i64 x.num]] ++ caps) wr fun e w' => e = .returned (.int .i64 (f x)) ∧ Below wr.heap.size wr w') :
 Calls Tryz.prog 210 #[.slice A n cap, .func (.func kf) #[] caps] w fun e w' => ∃ A' cap', e = .returned (.slice A' n cap') ∧ Lst 1 (fun g => w.heap.size ≤ g) inR w' A' cap' (l.map f) ∧ Below w.heap.size w w' := by
 have q1 : n ≤ cap := by have := h.l_le; omega
 have q2 := h.l_max
 unfold maxLen at q2
 have hent : ∀ (args : Array Value) (w : World), (callFunc kf args).run Tryz.prog w = .ok (.enter kf args) w := henter
 have H := Lib.hid h
 have HN := Lib.hid hn
 have HM := Lib.hid hm
 have HP := Lib.hid hp
 clear h hn hp henter hm
 go_enter Tryz.func210, Tryz.ntmps210
 go_wp2
 go_loopw [5, 7, 10] (fun v u x wr => ∃ i : Nat, x = .int .i64 (i : Int) ∧ i ≤ n ∧ wr.ownsRow w.heap.size 3 1 v ((l.map f).take i).length (zs ((l.map f).take i)) ∧ Below w.heap.size w wr) (fun v u x _ => n - (intOf x).toNat)
 case atStart => exact ⟨0, rfl, Nat.zero_le _, row_none w _ 1 _, Below.refl _ _⟩
 case round =>
  obtain ⟨i, rfl, hi, hown, hbel⟩ := hrel
  have HOWN := Lib.hid hown
  have hb0 := Lib.hid hbel
  clear hown hbel
  by_cases hlt : i < n
  ·have g1 : decide ((i : Int) < (n : Int)) = true := decide_eq_true (by omega)
   obtain ⟨x, hx⟩ : ∃ x, l[i]? = some x := ⟨_, List.getElem?_eq_getElem (by have := HN.out; omega)⟩
   have HTK : Hid ((l.map f).take (i + 1) = (l.map f).take i ++ [f x]) := Lib.hid (split_take (by rw [List.getElem?_map, hx]; rfl))
   have HLN : Hid (((l.map f).take i).length ≤ 1000) := Lib.hid (by have := HM.out; rw [List.length_take]; omega)
   obtain ⟨ge, oe, rfl, _, hc⟩ := vl_at H.out hx
   have HCK := Lib.hid (HP.out x (List.mem_of_getElem? hx))
   obtain ⟨s0, hs0⟩ : ∃ s0, s0 = strOf x.name := ⟨_, rfl⟩
   obtain ⟨z1, hz1⟩ : ∃ z1, z1 = x.num := ⟨_, rfl⟩
   rw [← hs0, ← hz1] at hc HCK
   obtain ⟨c0, c1⟩ := hc _ hb0.out
   obtain ⟨fv, hfv⟩ : ∃ fv, fv = f x := ⟨_, rfl⟩
   have HFV := Lib.hid hfv
   rw [← hfv] at HCK
   clear hfv hx hc hs0 hz1
   go_wp2_with (first
    | (go_at_fn kf; refine (HCK.out _ (hb0.out.alloc hb0.out.size _)).mono ?_; rintro e w2 ⟨rfl, hb⟩; have HO2 := Lib.hid (own_below (own_below HOWN.out ((Below.refl _ _).alloc (Nat.le_refl _) _)) hb); have HB2 := Lib.hid ((hb0.out.alloc hb0.out.size _).trans (hb.mono (hb0.out.alloc hb0.out.size _).size)); clear hb)
    | (at_builtin; refine wpList_append_zs rfl _ _ rfl w.heap.size _ _ _ rfl (own_below HO2.out ((Below.refl _ _).alloc (Nat.le_refl _) _)) _ 1 1 [f x] rfl rfl (by have e := HFV.out; subst e; exact sl_int1 _ _ _) (by have := HLN.out; show _ + 1 ≤ 1000000; omega) (by have := HB2.out.size; simp; omega) ?_; intro va2 w3 ho hg; have HOA := Lib.hid ho; have HBA := Lib.hid ((HB2.out.alloc HB2.out.size _).grown hg (by have := HB2.out.size; simp; omega) (fun k hk => (HO2.out.lt k hk).1)); clear ho hg))
   go_roundw
   case rel => exact ⟨i + 1, by go_num, by omega, (by rw [HTK.out, List.length_append]; exact HOA.out), HBA.out⟩
   case measure => simp [intOf]; omega
  ·have g1 : decide ((i : Int) < (n : Int)) = false := decide_eq_false (by omega)
   have HF : Hid ((l.map f).take i = l.map f) := Lib.hid (List.take_of_length_le (by rw [List.length_map]; have := HN.out; omega))
   have ho := HOWN.out
   rw [HF.out] at ho
   obtain ⟨_, Al, capl, hvl, hsl⟩ := zs_own ho
   rw [List.length_map, ← HN.out] at hvl
   subst hvl
   have HSL := Lib.hid hsl
   clear ho hsl
   go_wp2
   go_ret
   exact ⟨Al, capl, rfl, lst_keep HSL.out inR_keep (fun g hg => hg.1) (fun _ _ _ => rfl), hb0.out⟩

set_option maxHeartbeats 4000000 in
theorem gat_fdz {S : Nat → Prop} (w : World) {A : Option Addr} {cap n : Nat} {l : List Fd} (h : Lst 7 S fdR w A cap l) (hn : n = l.length) (hm : n ≤ 1000) (kf : Nat) (caps : Array Value) (henter : Enters Tryz.prog kf) (f : Fd → Int)
 (hp : ∀ x ∈ l, ∀ wr, Below w.heap.size w wr → Calls Tryz.prog kf (#[fdV x] ++ caps) wr fun e w' => e = .returned (.int .i64 (f x)) ∧ Below wr.heap.size wr w') :
 Calls Tryz.prog 213 #[.slice A n cap, .func (.func kf) #[] caps] w fun e w' => ∃ A' cap', e = .returned (.slice A' n cap') ∧ Lst 1 (fun g => w.heap.size ≤ g) inR w' A' cap' (l.map f) ∧ Below w.heap.size w w' := by
 have q1 : n ≤ cap := by have := h.l_le; omega
 have q2 := h.l_max
 unfold maxLen at q2
 have hent : ∀ (args : Array Value) (w : World), (callFunc kf args).run Tryz.prog w = .ok (.enter kf args) w := henter
 have H := Lib.hid h
 have HN := Lib.hid hn
 have HM := Lib.hid hm
 have HP := Lib.hid hp
 clear h hn hp henter hm
 go_enter Tryz.func213, Tryz.ntmps213
 go_wp2
 go_loopw [5, 7, 10] (fun v u x wr => ∃ i : Nat, x = .int .i64 (i : Int) ∧ i ≤ n ∧ wr.ownsRow w.heap.size 3 1 v ((l.map f).take i).length (zs ((l.map f).take i)) ∧ Below w.heap.size w wr) (fun v u x _ => n - (intOf x).toNat)
 case atStart => exact ⟨0, rfl, Nat.zero_le _, row_none w _ 1 _, Below.refl _ _⟩
 case round =>
  obtain ⟨i, rfl, hi, hown, hbel⟩ := hrel
  have HOWN := Lib.hid hown
  have hb0 := Lib.hid hbel
  clear hown hbel
  by_cases hlt : i < n
  ·have g1 : decide ((i : Int) < (n : Int)) = true := decide_eq_true (by omega)
   obtain ⟨x, hx⟩ : ∃ x, l[i]? = some x := ⟨_, List.getElem?_eq_getElem (by have := HN.out; omega)⟩
   have HTK : Hid ((l.map f).take (i + 1) = (l.map f).take i ++ [f x]) := Lib.hid (split_take (by rw [List.getElem?_map, hx]; rfl))
   have HLN : Hid (((l.map f).take i).length ≤ 1000) := Lib.hid (by have := HM.out; rw [List.length_take]; omega)
   obtain ⟨ge, oe, rfl, _, hc⟩ := fd_at H.out hx
   have HCK := Lib.hid (HP.out x (List.mem_of_getElem? hx))
   unfold fdV at HCK
   obtain ⟨s0, hs0⟩ : ∃ s0, s0 = strOf x.name := ⟨_, rfl⟩
   obtain ⟨s3, hs3⟩ : ∃ s3, s3 = strOf x.ref := ⟨_, rfl⟩
   obtain ⟨s6, hs6⟩ : ∃ s6, s6 = strOf x.one := ⟨_, rfl⟩
   obtain ⟨z1, hz1⟩ : ∃ z1, z1 = x.num := ⟨_, rfl⟩
   obtain ⟨z2, hz2⟩ : ∃ z2, z2 = x.ty := ⟨_, rfl⟩
   obtain ⟨b4, hb4⟩ : ∃ b4, b4 = x.rep := ⟨_, rfl⟩
   obtain ⟨b5, hb5⟩ : ∃ b5, b5 = x.loose := ⟨_, rfl⟩
   rw [← hs0, ← hs3, ← hs6, ← hz1, ← hz2, ← hb4, ← hb5] at hc HCK
   obtain ⟨c0, c1, c2, c3, c4, c5, c6⟩ := hc _ hb0.out
   obtain ⟨fv, hfv⟩ : ∃ fv, fv = f x := ⟨_, rfl⟩
   have HFV := Lib.hid hfv
   rw [← hfv] at HCK
   clear hfv hx hc hs0 hs3 hs6 hz1 hz2 hb4 hb5
   go_wp2_with (first
    | (go_at_fn kf; refine (HCK.out _ (hb0.out.alloc hb0.out.size _)).mono ?_; rintro e w2 ⟨rfl, hb⟩; have HO2 := Lib.hid (own_below (own_below HOWN.out ((Below.refl _ _).alloc (Nat.le_refl _) _)) hb); have HB2 := Lib.hid ((hb0.out.alloc hb0.out.size _).trans (hb.mono (hb0.out.alloc hb0.out.size _).size)); clear hb)
    | (at_builtin; refine wpList_append_zs rfl _ _ rfl w.heap.size _ _ _ rfl (own_below HO2.out ((Below.refl _ _).alloc (Nat.le_refl _) _)) _ 1 1 [f x] rfl rfl (by have e := HFV.out; subst e; exact sl_int1 _ _ _) (by have := HLN.out; show _ + 1 ≤ 1000000; omega) (by have := HB2.out.size; simp; omega) ?_; intro va2 w3 ho hg; have HOA := Lib.hid ho; have HBA := Lib.hid ((HB2.out.alloc HB2.out.size _).grown hg (by have := HB2.out.size; simp; omega) (fun k hk => (HO2.out.lt k hk).1)); clear ho hg))
   go_roundw
   case rel => exact ⟨i + 1, by go_num, by omega, (by rw [HTK.out, List.length_append]; exact HOA.out), HBA.out⟩
   case measure => simp [intOf]; omega
  ·have g1 : decide ((i : Int) < (n : Int)) = false := decide_eq_false (by omega)
   have HF : Hid ((l.map f).take i = l.map f) := Lib.hid (List.take_of_length_le (by rw [List.length_map]; have := HN.out; omega))
   have ho := HOWN.out
   rw [HF.out] at ho
   obtain ⟨_, Al, capl, hvl, hsl⟩ := zs_own ho
   rw [List.length_map, ← HN.out] at hvl
   subst hvl
   have HSL := Lib.hid hsl
   clear ho hsl
   go_wp2
   go_ret
   exact ⟨Al, capl, rfl, lst_keep HSL.out inR_keep (fun g hg => hg.1) (fun _ _ _ => rfl), hb0.out⟩
end Go.Proofs.YtcjjphioeneiiaaGreatDoor

/- slices.Grow of no list, slices.Concat of two lists of texts, strings.Clone. Conditions: those that each theorem names. -/
namespace Go.Proofs.YtcjjphioeneiiaaGreatDoor
open Go.RowKit
set_option linter.unusedVariables false
set_option maxRecDepth 100000

theorem sclone_any (s : ByteArray) (w : World) (hs : s.size ≤ 1000000) : Calls Tryz.prog 108 #[.string s] w fun e w' => e = .returned (.string s) ∧ Below w.heap.size w w' := by
 have H : Hid (∀ w, Calls Tryz.prog 181 #[.string s] w fun e w' => e = .returned (.string s) ∧ Below w.heap.size w w') := Lib.hid (fun w => Any.stringslite_Clone lcl_lays s w (by omega))
 clear hs
 go_enter Tryz.func108, Tryz.ntmps108
 go_wp2_with (go_at_call 181; refine (H.out _).mono ?_; rintro e w2 ⟨rfl, hb⟩)
 go_ret
 exact ⟨rfl, hb⟩

set_option maxHeartbeats 2000000 in
theorem sgrow_nil (w : World) (n : Nat) (hn : n ≤ 1000000) :
 Calls Tryz.prog 191 #[.slice none 0 0, .int .i64 n] w fun e w' => ∃ v, e = .returned v ∧ w'.ownsRow w.heap.size 9 1 v 0 (txts []) ∧ Below w.heap.size w w' := by
 obtain ⟨i, hi, hz0, hz1, hz2⟩ := info_str_parts
 by_cases h0 : n = 0
 ·subst h0
  go_enter Tryz.func191, Tryz.ntmps191
  go_wp2
  go_ret
  exact ⟨_, rfl, row_none w _ 1 _, Below.refl _ _⟩
 ·have h1 : ¬ ((n : Int) < 0) := by omega
  have h4 : (n : Int) > 0 := by omega
  have g1 : decide ((n : Int) < 0) = false := decide_eq_false (by omega)
  have g2 : decide ((n : Int) > 0) = true := decide_eq_true (by omega)
  have g3 : decide (0 < n) = true := decide_eq_true (by omega)
  have gw : IntKind.i64.wrap (n : Int) = (n : Int) := IntWalk.i64_in _ (by omega)
  have hold : (Builtin.firstCells i.size 0 (.slice none 0 0)).run Tryz.prog w.drew = .ok (([] : List Value)).toArray w.drew := run_firstCells_none w.drew i.size 0 0 0
  have hrz : ∀ ty, (Builtin.append_ #[78, 3] ty #[.slice none 0 0, .int .i64 (n : Int)]).run Tryz.prog w =
   .ok (.slice (some ⟨w.heap.size, 0, none⟩) n (grownCap w n 0 9)) (w.drew.alloc (.cells (([] : List Value).toArray ++ Builtin.zeroCells (Value.string ByteArray.empty).cells n ++ Builtin.zeroCells (Value.string ByteArray.empty).cells (grownCap w n 0 9 - n)) 9)) := fun ty => by
   have h := Lib.run_append_grow_zeros w 78 3 ty 9 i (.string ByteArray.empty) .i64 .i64 Tryz.underlying78 Tryz.underlying3 hi hz0 none 0 0 [] hold n (by omega) (by omega) (by omega) (by omega)
    (by rw [hz2]; omega) (by rw [Nat.zero_add]; exact growslice_fits (by omega) (by rw [hz2]; omega))
   rw [Nat.zero_add] at h
   exact h
  have hGn : n ≤ grownCap w n 0 9 := grownCap_ge w _ _ _
  have hGm := grownCap_le_maxLen w n 0 9 (by unfold maxLen; omega)
  obtain ⟨G, hG⟩ : ∃ G, G = grownCap w n 0 9 := ⟨_, rfl⟩
  rw [← hG] at hrz hGn hGm
  have hG63 : G ≤ 9223372036854775807 := by unfold maxLen at hGm; omega
  have HGM := Lib.hid hGm
  clear hold hG hGm hi
  go_enter Tryz.func191, Tryz.ntmps191
  go_wp2_with (at_builtin; refine Lib.wpList_append_run _ rfl _ _ _ _ rfl _ _ rfl rfl _ _ (hrz _) ?_)
  go_ret
  refine ⟨_, rfl, ⟨rfl, .inr ⟨w.heap.size, G, _, rfl, Nat.le_refl _, heap_alloc_new w.drew _, Nat.zero_le _, HGM.out, ?_, rfl⟩⟩, ?_⟩
  ·simp [Builtin.zeroCells]
   omega
  ·exact ((Below.refl _ w).trans (drewN_under w 1)).alloc (Nat.le_refl _) _

/-- How many texts the first k lists have. -/
def upTo {α : Type} (a b : List α) : Nat → List α
 | 0 => []
 | 1 => a
 | _ => a ++ b
theorem upTo_len {α : Type} {a b : List α} (k : Nat) (ha : a.length ≤ 1000) (hb : b.length ≤ 1000) : (upTo a b k).length ≤ 2000 := by
 match k with
 | 0 => exact Nat.zero_le _
 | 1 => show a.length ≤ 2000; omega
 | k + 2 => show (a ++ b).length ≤ 2000; rw [List.length_append]; omega
set_option maxHeartbeats 4000000 in
theorem sconcat_any (w : World) (g : Nat) {A1 A2 : Option Addr} {n1 c1 n2 c2 : Nat} {l1 l2 : List (List UInt8)} (h0 : w.cell? ⟨g, 0, none⟩ = some (.slice A1 n1 c1)) (h1 : w.cell? ⟨g, 1, none⟩ = some (.slice A2 n2 c2))
 (hs1 : Sl w A1 c1 (txts l1)) (hs2 : Sl w A2 c2 (txts l2)) (hn1 : n1 = l1.length) (hn2 : n2 = l2.length) (hm1 : n1 ≤ 1000) (hm2 : n2 ≤ 1000) :
 Calls Tryz.prog 120 #[.slice (some ⟨g, 0, none⟩) 2 2] w fun e w' => ∃ v, e = .returned v ∧ w'.ownsRow w.heap.size 9 1 v (l1 ++ l2).length (txts (l1 ++ l2)) ∧ Below w.heap.size w w' := by
 have HG := Lib.hid (sgrow_nil w (n1 + n2) (by omega))
 have H1 := Lib.hid hs1
 have H2 := Lib.hid hs2
 have HN1 := Lib.hid hn1
 have HN2 := Lib.hid hn2
 have HC0 := Lib.hid h0
 have HC1 := Lib.hid h1
 have HL : Hid (∀ k, (upTo l1 l2 k).length ≤ 2000) := Lib.hid (fun k => upTo_len k (by omega) (by omega))
 clear hs1 hs2 hn1 hn2
 have gw1 : IntKind.i64.wrap ((n1 : Int) + (n2 : Int)) = ((n1 + n2 : Nat) : Int) := by rw [IntWalk.i64_in _ (by omega)]; omega
 have gw0 : IntKind.i64.wrap (n1 : Int) = (n1 : Int) := IntWalk.i64_in _ (by omega)
 have gn1 : decide ((n1 : Int) < 0) = false := decide_eq_false (by omega)
 have gn2 : decide (((n1 + n2 : Nat) : Int) < 0) = false := decide_eq_false (by omega)
 clear h0 h1
 go_enter Tryz.func120, Tryz.ntmps120
 go_wp2
 go_loopw [3, 5, 11] (fun u v x wr => ∃ k : Nat, x = .int .i64 (k : Int) ∧ k ≤ 2 ∧ u = .int .i64 ((if k = 0 then 0 else if k = 1 then n1 else n1 + n2 : Nat) : Int) ∧ w = wr) (fun u v x _ => 2 - (intOf x).toNat)
 case atStart => exact ⟨0, rfl, by omega, rfl, by trivial⟩
 case round =>
  obtain ⟨k, rfl, hk, rfl, rfl⟩ := hrel
  have c0 := HC0.out
  have c1' := HC1.out
  match k, hk with
  | 0, _ =>
    go_wp2
    go_roundw
    case rel => exact ⟨1, rfl, by omega, rfl, by trivial⟩
    case measure => simp [intOf]
  | 1, _ =>
    go_wp2
    go_roundw
    case rel => exact ⟨2, rfl, by omega, rfl, by trivial⟩
    case measure => simp [intOf]
  | 2, _ =>
    go_wp2_with (go_at_call 191; refine HG.out.mono ?_; rintro e w2 ⟨v0, rfl, ho, hb⟩; have HO := Lib.hid ho; have HB := Lib.hid hb; clear ho hb)
    go_loopw [6, 8, 27] (fun u v x wr2 => ∃ k : Nat, x = .int .i64 (k : Int) ∧ k ≤ 2 ∧ wr2.ownsRow w.heap.size 9 1 u (upTo l1 l2 k).length (txts (upTo l1 l2 k)) ∧ Below w.heap.size w wr2) (fun u v x _ => 2 - (intOf x).toNat)
    case atStart => exact ⟨0, rfl, by omega, HO.out, HB.out⟩
    case round =>
     obtain ⟨k, rfl, hk, hown, hbel⟩ := hrel
     have HOWN := Lib.hid hown
     have HBEL := Lib.hid hbel
     have c0 := cell_under hbel HC0.out
     have c1' := cell_under hbel HC1.out
     clear hown hbel
     match k, hk with
     | 0, _ =>
       go_wp2_with (at_builtin; refine wpList_append_sl rfl _ _ rfl w.heap.size _ _ _ rfl HOWN.out _ n1 c1 l1 rfl HN1.out (H1.out.below HBEL.out (Nat.le_refl _)) (by have := HN1.out; show 0 + _ ≤ 1000000; omega) HBEL.out.size ?_; intro va2 w3 ho hg; have HOA := Lib.hid ho; have HBA := Lib.hid (HBEL.out.grown hg HBEL.out.size (fun k hk => (HOWN.out.lt k hk).1)); clear ho hg)
       go_roundw
       case rel => exact ⟨1, rfl, by omega, (by have := HOA.out; simpa [upTo] using this), HBA.out⟩
       case measure => simp [intOf]
     | 1, _ =>
       go_wp2_with (at_builtin; refine wpList_append_sl rfl _ _ rfl w.heap.size _ _ _ rfl HOWN.out _ n2 c2 l2 rfl HN2.out (H2.out.below HBEL.out (Nat.le_refl _)) (by have := HN1.out; have := HN2.out; show l1.length + _ ≤ 1000000; omega) HBEL.out.size ?_; intro va2 w3 ho hg; have HOA := Lib.hid ho; have HBA := Lib.hid (HBEL.out.grown hg HBEL.out.size (fun k hk => (HOWN.out.lt k hk).1)); clear ho hg)
       go_roundw
       case rel => exact ⟨2, rfl, by omega, (by have := HOA.out; rw [← List.length_append] at this; exact this), HBA.out⟩
       case measure => simp [intOf]
     | 2, _ =>
       go_wp2
       go_ret
       exact ⟨_, rfl, HOWN.out, HBEL.out⟩
end Go.Proofs.YtcjjphioeneiiaaGreatDoor
