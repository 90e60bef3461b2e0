/- Several texts in one: SxC. What each proves, and its conditions, stands at its own head. -/
import Derived.Test.YtjogamffdbedkaaGreatDoorPkA23
import Derived.Test.YtjogamffdbedkaaGreatDoorPkA36
import Derived.Test.YtjogamffdbedkaaGreatDoorPkA22
/- gather: what a function tells of each thing of a list, as texts and as numbers. Conditions: those that each theorem names. -/
namespace Go.Proofs.YtjogamffdbedkaaGreatDoor
open Go.RowKit
set_option linter.unusedVariables false
set_option maxRecDepth 100000

/-- No row yet. -/
theorem row_none (w : World) (base k : Nat) (t : TypeId) : w.ownsRow base t k (.slice none 0 0) 0 [] := ⟨by simp, .inl ⟨rfl, rfl⟩⟩

set_option maxHeartbeats 4000000 in
theorem gat_ens {S : Nat → Nat → Prop} (w : World) {A : Option Addr} {cap n : Nat} {l : List En} (h : Lst 2 (S 3) (enR S) w A cap l) (hn : n = l.length) (hm : n ≤ 1000) (kf : Nat) (caps : Array Value) (henter : Enters Tryz.prog kf) (f : En → List UInt8)
    (hp : ∀ x ∈ l, ∀ A1 cap1, Lst 2 (S 0) vlR w A1 cap1 x.values → ∀ wr, Below w.heap.size w wr → Calls Tryz.prog kf (#[.agg #[.string (strOf x.name), .slice A1 x.values.length cap1]] ++ caps) wr fun e w' => e = .returned (.string (strOf (f x))) ∧ Below wr.heap.size wr w') :
    Calls Tryz.prog 106 #[.slice A n cap, .func (.func kf) #[] caps] w fun e w' => ∃ A' cap', e = .returned (.slice A' n cap') ∧ Sl w' A' cap' (txts (l.map f)) ∧ Below w.heap.size w w' := by
  have q1 : n ≤ cap := by have := h.l_le; omega
  have q2 := h.l_max
  unfold maxLen at q2
  have hent : ∀ (args : Array Value) (w : World), (callFunc kf args).run Tryz.prog w = .ok (.enter kf args) w := henter
  have H := Lib.hid h
  have HN := Lib.hid hn
  have HM := Lib.hid hm
  have HP := Lib.hid hp
  clear h hn hp henter hm
  go_enter Tryz.func106, Tryz.ntmps106
  go_wp2
  go_loopw [5, 7, 10] (fun v u x wr => ∃ i : Nat, x = .int .i64 (i : Int) ∧ i ≤ n ∧ wr.ownsRow w.heap.size 9 1 v ((l.map f).take i).length (txts ((l.map f).take i)) ∧ Below w.heap.size w wr) (fun v u x _ => n - (intOf x).toNat)
  case atStart => exact ⟨0, rfl, Nat.zero_le _, row_none w _ 1 _, Below.refl _ _⟩
  case round =>
    obtain ⟨i, rfl, hi, hown, hbel⟩ := hrel
    have HOWN := Lib.hid hown
    have hb0 := Lib.hid hbel
    clear hown hbel
    by_cases hlt : i < n
    · have g1 : decide ((i : Int) < (n : Int)) = true := decide_eq_true (by omega)
      obtain ⟨x, hx⟩ : ∃ x, l[i]? = some x := ⟨_, List.getElem?_eq_getElem (by have := HN.out; omega)⟩
      have HTK : Hid ((l.map f).take (i + 1) = (l.map f).take i ++ [f x]) := Lib.hid (split_take (by rw [List.getElem?_map, hx]; rfl))
      have HLN : Hid (((l.map f).take i).length ≤ 1000) := Lib.hid (by have := HM.out; rw [List.length_take]; omega)
      obtain ⟨ge, oe, A1, cap1, rfl, _, hc, hl⟩ := en_at H.out hx
      have HCK := Lib.hid (HP.out x (List.mem_of_getElem? hx) A1 cap1 hl)
      obtain ⟨nv, hnv⟩ : ∃ nv, nv = x.values.length := ⟨_, rfl⟩
      obtain ⟨sn, hsn⟩ : ∃ sn, sn = strOf x.name := ⟨_, rfl⟩
      rw [← hnv] at hc HCK
      rw [← hsn] at hc HCK
      obtain ⟨c0, c1⟩ := hc _ hb0.out
      obtain ⟨fv, hfv⟩ : ∃ fv, fv = strOf (f x) := ⟨_, rfl⟩
      have HFV := Lib.hid hfv
      rw [← hfv] at HCK
      clear hfv hx hc hl hnv hsn
      go_wp2_with (first
        | (go_at_fn kf; refine (HCK.out _ (hb0.out.alloc hb0.out.size _)).mono ?_; rintro e w2 ⟨rfl, hb⟩; have HO2 := Lib.hid (own_below (own_below HOWN.out ((Below.refl _ _).alloc (Nat.le_refl _) _)) hb); have HB2 := Lib.hid ((hb0.out.alloc hb0.out.size _).trans (hb.mono (hb0.out.alloc hb0.out.size _).size)); clear hb)
        | (at_builtin; refine wpList_append_sl rfl _ _ rfl w.heap.size _ _ _ rfl (own_below HO2.out ((Below.refl _ _).alloc (Nat.le_refl _) _)) _ 1 1 [f x] rfl rfl (sl_txt1 _ _ _ _ HFV.out) (by have := HLN.out; show _ + 1 ≤ 1000000; omega) (by have := HB2.out.size; simp; omega) ?_; intro va2 w3 ho hg; have HOA := Lib.hid ho; have HBA := Lib.hid ((HB2.out.alloc HB2.out.size _).grown hg (by have := HB2.out.size; simp; omega) (fun k hk => (HO2.out.lt k hk).1)); clear ho hg))
      go_roundw
      case rel => exact ⟨i + 1, by go_num, by omega, (by rw [HTK.out, List.length_append]; exact HOA.out), HBA.out⟩
      case measure => simp [intOf]; omega
    · have g1 : decide ((i : Int) < (n : Int)) = false := decide_eq_false (by omega)
      have HF : Hid ((l.map f).take i = l.map f) := Lib.hid (List.take_of_length_le (by rw [List.length_map]; have := HN.out; omega))
      have ho := HOWN.out
      rw [HF.out] at ho
      obtain ⟨_, Al, capl, hvl, hsl⟩ := Sl.own ho
      rw [txts_length] at hvl
      rw [List.length_map, ← HN.out] at hvl
      subst hvl
      have HSL := Lib.hid hsl
      clear ho hsl
      go_wp2
      go_ret
      exact ⟨Al, capl, rfl, HSL.out, hb0.out⟩

set_option maxHeartbeats 4000000 in
theorem gat_mss {S : Nat → Nat → Prop} (w : World) {A : Option Addr} {cap n : Nat} {l : List Ms} (h : Lst 3 (S 4) (msR S) w A cap l) (hn : n = l.length) (hm : n ≤ 1000) (kf : Nat) (caps : Array Value) (henter : Enters Tryz.prog kf) (f : Ms → List UInt8)
    (hp : ∀ x ∈ l, ∀ A1 cap1 A2 cap2, Lst 7 (S 1) fdR w A1 cap1 x.fields → Lst 1 (S 2) inR w A2 cap2 x.barred → ∀ wr, Below w.heap.size w wr → Calls Tryz.prog kf (#[.agg #[.string (strOf x.name), .slice A1 x.fields.length cap1, .slice A2 x.barred.length cap2]] ++ caps) wr fun e w' => e = .returned (.string (strOf (f x))) ∧ Below wr.heap.size wr w') :
    Calls Tryz.prog 108 #[.slice A n cap, .func (.func kf) #[] caps] w fun e w' => ∃ A' cap', e = .returned (.slice A' n cap') ∧ Sl w' A' cap' (txts (l.map f)) ∧ Below w.heap.size w w' := by
  have q1 : n ≤ cap := by have := h.l_le; omega
  have q2 := h.l_max
  unfold maxLen at q2
  have hent : ∀ (args : Array Value) (w : World), (callFunc kf args).run Tryz.prog w = .ok (.enter kf args) w := henter
  have H := Lib.hid h
  have HN := Lib.hid hn
  have HM := Lib.hid hm
  have HP := Lib.hid hp
  clear h hn hp henter hm
  go_enter Tryz.func108, Tryz.ntmps108
  go_wp2
  go_loopw [5, 7, 10] (fun v u x wr => ∃ i : Nat, x = .int .i64 (i : Int) ∧ i ≤ n ∧ wr.ownsRow w.heap.size 9 1 v ((l.map f).take i).length (txts ((l.map f).take i)) ∧ Below w.heap.size w wr) (fun v u x _ => n - (intOf x).toNat)
  case atStart => exact ⟨0, rfl, Nat.zero_le _, row_none w _ 1 _, Below.refl _ _⟩
  case round =>
    obtain ⟨i, rfl, hi, hown, hbel⟩ := hrel
    have HOWN := Lib.hid hown
    have hb0 := Lib.hid hbel
    clear hown hbel
    by_cases hlt : i < n
    · have g1 : decide ((i : Int) < (n : Int)) = true := decide_eq_true (by omega)
      obtain ⟨x, hx⟩ : ∃ x, l[i]? = some x := ⟨_, List.getElem?_eq_getElem (by have := HN.out; omega)⟩
      have HTK : Hid ((l.map f).take (i + 1) = (l.map f).take i ++ [f x]) := Lib.hid (split_take (by rw [List.getElem?_map, hx]; rfl))
      have HLN : Hid (((l.map f).take i).length ≤ 1000) := Lib.hid (by have := HM.out; rw [List.length_take]; omega)
      obtain ⟨ge, oe, A1, cap1, A2, cap2, rfl, _, hc, hl, hl2⟩ := ms_at H.out hx
      have HCK := Lib.hid (HP.out x (List.mem_of_getElem? hx) A1 cap1 A2 cap2 hl hl2)
      obtain ⟨nf, hnf⟩ : ∃ nf, nf = x.fields.length := ⟨_, rfl⟩
      obtain ⟨nb, hnb⟩ : ∃ nb, nb = x.barred.length := ⟨_, rfl⟩
      obtain ⟨sn, hsn⟩ : ∃ sn, sn = strOf x.name := ⟨_, rfl⟩
      rw [← hnf, ← hnb] at hc HCK
      rw [← hsn] at hc HCK
      obtain ⟨c0, c1, c2⟩ := hc _ hb0.out
      obtain ⟨fv, hfv⟩ : ∃ fv, fv = strOf (f x) := ⟨_, rfl⟩
      have HFV := Lib.hid hfv
      rw [← hfv] at HCK
      clear hfv hx hc hl hl2 hnf hnb hsn
      go_wp2_with (first
        | (go_at_fn kf; refine (HCK.out _ (hb0.out.alloc hb0.out.size _)).mono ?_; rintro e w2 ⟨rfl, hb⟩; have HO2 := Lib.hid (own_below (own_below HOWN.out ((Below.refl _ _).alloc (Nat.le_refl _) _)) hb); have HB2 := Lib.hid ((hb0.out.alloc hb0.out.size _).trans (hb.mono (hb0.out.alloc hb0.out.size _).size)); clear hb)
        | (at_builtin; refine wpList_append_sl rfl _ _ rfl w.heap.size _ _ _ rfl (own_below HO2.out ((Below.refl _ _).alloc (Nat.le_refl _) _)) _ 1 1 [f x] rfl rfl (sl_txt1 _ _ _ _ HFV.out) (by have := HLN.out; show _ + 1 ≤ 1000000; omega) (by have := HB2.out.size; simp; omega) ?_; intro va2 w3 ho hg; have HOA := Lib.hid ho; have HBA := Lib.hid ((HB2.out.alloc HB2.out.size _).grown hg (by have := HB2.out.size; simp; omega) (fun k hk => (HO2.out.lt k hk).1)); clear ho hg))
      go_roundw
      case rel => exact ⟨i + 1, by go_num, by omega, (by rw [HTK.out, List.length_append]; exact HOA.out), HBA.out⟩
      case measure => simp [intOf]; omega
    · have g1 : decide ((i : Int) < (n : Int)) = false := decide_eq_false (by omega)
      have HF : Hid ((l.map f).take i = l.map f) := Lib.hid (List.take_of_length_le (by rw [List.length_map]; have := HN.out; omega))
      have ho := HOWN.out
      rw [HF.out] at ho
      obtain ⟨_, Al, capl, hvl, hsl⟩ := Sl.own ho
      rw [txts_length] at hvl
      rw [List.length_map, ← HN.out] at hvl
      subst hvl
      have HSL := Lib.hid hsl
      clear ho hsl
      go_wp2
      go_ret
      exact ⟨Al, capl, rfl, HSL.out, hb0.out⟩

set_option maxHeartbeats 4000000 in
theorem gat_vls {S : Nat → Prop} (w : World) {A : Option Addr} {cap n : Nat} {l : List Vl} (h : Lst 2 S vlR w A cap l) (hn : n = l.length) (hm : n ≤ 1000) (kf : Nat) (caps : Array Value) (henter : Enters Tryz.prog kf) (f : Vl → List UInt8)
    (hp : ∀ x ∈ l, ∀ wr, Below w.heap.size w wr → Calls Tryz.prog kf (#[.agg #[.string (strOf x.name), .int .i64 x.num]] ++ caps) wr fun e w' => e = .returned (.string (strOf (f x))) ∧ Below wr.heap.size wr w') :
    Calls Tryz.prog 110 #[.slice A n cap, .func (.func kf) #[] caps] w fun e w' => ∃ A' cap', e = .returned (.slice A' n cap') ∧ Sl w' A' cap' (txts (l.map f)) ∧ Below w.heap.size w w' := by
  have q1 : n ≤ cap := by have := h.l_le; omega
  have q2 := h.l_max
  unfold maxLen at q2
  have hent : ∀ (args : Array Value) (w : World), (callFunc kf args).run Tryz.prog w = .ok (.enter kf args) w := henter
  have H := Lib.hid h
  have HN := Lib.hid hn
  have HM := Lib.hid hm
  have HP := Lib.hid hp
  clear h hn hp henter hm
  go_enter Tryz.func110, Tryz.ntmps110
  go_wp2
  go_loopw [5, 7, 10] (fun v u x wr => ∃ i : Nat, x = .int .i64 (i : Int) ∧ i ≤ n ∧ wr.ownsRow w.heap.size 9 1 v ((l.map f).take i).length (txts ((l.map f).take i)) ∧ Below w.heap.size w wr) (fun v u x _ => n - (intOf x).toNat)
  case atStart => exact ⟨0, rfl, Nat.zero_le _, row_none w _ 1 _, Below.refl _ _⟩
  case round =>
    obtain ⟨i, rfl, hi, hown, hbel⟩ := hrel
    have HOWN := Lib.hid hown
    have hb0 := Lib.hid hbel
    clear hown hbel
    by_cases hlt : i < n
    · have g1 : decide ((i : Int) < (n : Int)) = true := decide_eq_true (by omega)
      obtain ⟨x, hx⟩ : ∃ x, l[i]? = some x := ⟨_, List.getElem?_eq_getElem (by have := HN.out; omega)⟩
      have HTK : Hid ((l.map f).take (i + 1) = (l.map f).take i ++ [f x]) := Lib.hid (split_take (by rw [List.getElem?_map, hx]; rfl))
      have HLN : Hid (((l.map f).take i).length ≤ 1000) := Lib.hid (by have := HM.out; rw [List.length_take]; omega)
      obtain ⟨ge, oe, rfl, _, hc⟩ := vl_at H.out hx
      have HCK := Lib.hid (HP.out x (List.mem_of_getElem? hx))
      obtain ⟨s0, hs0⟩ : ∃ s0, s0 = strOf x.name := ⟨_, rfl⟩
      obtain ⟨z1, hz1⟩ : ∃ z1, z1 = x.num := ⟨_, rfl⟩
      rw [← hs0, ← hz1] at hc HCK
      obtain ⟨c0, c1⟩ := hc _ hb0.out
      obtain ⟨fv, hfv⟩ : ∃ fv, fv = strOf (f x) := ⟨_, rfl⟩
      have HFV := Lib.hid hfv
      rw [← hfv] at HCK
      clear hfv hx hc hs0 hz1
      go_wp2_with (first
        | (go_at_fn kf; refine (HCK.out _ (hb0.out.alloc hb0.out.size _)).mono ?_; rintro e w2 ⟨rfl, hb⟩; have HO2 := Lib.hid (own_below (own_below HOWN.out ((Below.refl _ _).alloc (Nat.le_refl _) _)) hb); have HB2 := Lib.hid ((hb0.out.alloc hb0.out.size _).trans (hb.mono (hb0.out.alloc hb0.out.size _).size)); clear hb)
        | (at_builtin; refine wpList_append_sl rfl _ _ rfl w.heap.size _ _ _ rfl (own_below HO2.out ((Below.refl _ _).alloc (Nat.le_refl _) _)) _ 1 1 [f x] rfl rfl (sl_txt1 _ _ _ _ HFV.out) (by have := HLN.out; show _ + 1 ≤ 1000000; omega) (by have := HB2.out.size; simp; omega) ?_; intro va2 w3 ho hg; have HOA := Lib.hid ho; have HBA := Lib.hid ((HB2.out.alloc HB2.out.size _).grown hg (by have := HB2.out.size; simp; omega) (fun k hk => (HO2.out.lt k hk).1)); clear ho hg))
      go_roundw
      case rel => exact ⟨i + 1, by go_num, by omega, (by rw [HTK.out, List.length_append]; exact HOA.out), HBA.out⟩
      case measure => simp [intOf]; omega
    · have g1 : decide ((i : Int) < (n : Int)) = false := decide_eq_false (by omega)
      have HF : Hid ((l.map f).take i = l.map f) := Lib.hid (List.take_of_length_le (by rw [List.length_map]; have := HN.out; omega))
      have ho := HOWN.out
      rw [HF.out] at ho
      obtain ⟨_, Al, capl, hvl, hsl⟩ := Sl.own ho
      rw [txts_length] at hvl
      rw [List.length_map, ← HN.out] at hvl
      subst hvl
      have HSL := Lib.hid hsl
      clear ho hsl
      go_wp2
      go_ret
      exact ⟨Al, capl, rfl, HSL.out, hb0.out⟩

set_option maxHeartbeats 4000000 in
theorem gat_fds {S : Nat → Prop} (w : World) {A : Option Addr} {cap n : Nat} {l : List Fd} (h : Lst 7 S fdR w A cap l) (hn : n = l.length) (hm : n ≤ 1000) (kf : Nat) (caps : Array Value) (henter : Enters Tryz.prog kf) (f : Fd → List UInt8)
    (hp : ∀ x ∈ l, ∀ wr, Below w.heap.size w wr → Calls Tryz.prog kf (#[fdV x] ++ caps) wr fun e w' => e = .returned (.string (strOf (f x))) ∧ Below wr.heap.size wr w') :
    Calls Tryz.prog 138 #[.slice A n cap, .func (.func kf) #[] caps] w fun e w' => ∃ A' cap', e = .returned (.slice A' n cap') ∧ Sl w' A' cap' (txts (l.map f)) ∧ Below w.heap.size w w' := by
  have q1 : n ≤ cap := by have := h.l_le; omega
  have q2 := h.l_max
  unfold maxLen at q2
  have hent : ∀ (args : Array Value) (w : World), (callFunc kf args).run Tryz.prog w = .ok (.enter kf args) w := henter
  have H := Lib.hid h
  have HN := Lib.hid hn
  have HM := Lib.hid hm
  have HP := Lib.hid hp
  clear h hn hp henter hm
  go_enter Tryz.func138, Tryz.ntmps138
  go_wp2
  go_loopw [5, 7, 10] (fun v u x wr => ∃ i : Nat, x = .int .i64 (i : Int) ∧ i ≤ n ∧ wr.ownsRow w.heap.size 9 1 v ((l.map f).take i).length (txts ((l.map f).take i)) ∧ Below w.heap.size w wr) (fun v u x _ => n - (intOf x).toNat)
  case atStart => exact ⟨0, rfl, Nat.zero_le _, row_none w _ 1 _, Below.refl _ _⟩
  case round =>
    obtain ⟨i, rfl, hi, hown, hbel⟩ := hrel
    have HOWN := Lib.hid hown
    have hb0 := Lib.hid hbel
    clear hown hbel
    by_cases hlt : i < n
    · have g1 : decide ((i : Int) < (n : Int)) = true := decide_eq_true (by omega)
      obtain ⟨x, hx⟩ : ∃ x, l[i]? = some x := ⟨_, List.getElem?_eq_getElem (by have := HN.out; omega)⟩
      have HTK : Hid ((l.map f).take (i + 1) = (l.map f).take i ++ [f x]) := Lib.hid (split_take (by rw [List.getElem?_map, hx]; rfl))
      have HLN : Hid (((l.map f).take i).length ≤ 1000) := Lib.hid (by have := HM.out; rw [List.length_take]; omega)
      obtain ⟨ge, oe, rfl, _, hc⟩ := fd_at H.out hx
      have HCK := Lib.hid (HP.out x (List.mem_of_getElem? hx))
      unfold fdV at HCK
      obtain ⟨s0, hs0⟩ : ∃ s0, s0 = strOf x.name := ⟨_, rfl⟩
      obtain ⟨s3, hs3⟩ : ∃ s3, s3 = strOf x.ref := ⟨_, rfl⟩
      obtain ⟨s6, hs6⟩ : ∃ s6, s6 = strOf x.one := ⟨_, rfl⟩
      obtain ⟨z1, hz1⟩ : ∃ z1, z1 = x.num := ⟨_, rfl⟩
      obtain ⟨z2, hz2⟩ : ∃ z2, z2 = x.ty := ⟨_, rfl⟩
      obtain ⟨b4, hb4⟩ : ∃ b4, b4 = x.rep := ⟨_, rfl⟩
      obtain ⟨b5, hb5⟩ : ∃ b5, b5 = x.loose := ⟨_, rfl⟩
      rw [← hs0, ← hs3, ← hs6, ← hz1, ← hz2, ← hb4, ← hb5] at hc HCK
      obtain ⟨c0, c1, c2, c3, c4, c5, c6⟩ := hc _ hb0.out
      obtain ⟨fv, hfv⟩ : ∃ fv, fv = strOf (f x) := ⟨_, rfl⟩
      have HFV := Lib.hid hfv
      rw [← hfv] at HCK
      clear hfv hx hc hs0 hs3 hs6 hz1 hz2 hb4 hb5
      go_wp2_with (first
        | (go_at_fn kf; refine (HCK.out _ (hb0.out.alloc hb0.out.size _)).mono ?_; rintro e w2 ⟨rfl, hb⟩; have HO2 := Lib.hid (own_below (own_below HOWN.out ((Below.refl _ _).alloc (Nat.le_refl _) _)) hb); have HB2 := Lib.hid ((hb0.out.alloc hb0.out.size _).trans (hb.mono (hb0.out.alloc hb0.out.size _).size)); clear hb)
        | (at_builtin; refine wpList_append_sl rfl _ _ rfl w.heap.size _ _ _ rfl (own_below HO2.out ((Below.refl _ _).alloc (Nat.le_refl _) _)) _ 1 1 [f x] rfl rfl (sl_txt1 _ _ _ _ HFV.out) (by have := HLN.out; show _ + 1 ≤ 1000000; omega) (by have := HB2.out.size; simp; omega) ?_; intro va2 w3 ho hg; have HOA := Lib.hid ho; have HBA := Lib.hid ((HB2.out.alloc HB2.out.size _).grown hg (by have := HB2.out.size; simp; omega) (fun k hk => (HO2.out.lt k hk).1)); clear ho hg))
      go_roundw
      case rel => exact ⟨i + 1, by go_num, by omega, (by rw [HTK.out, List.length_append]; exact HOA.out), HBA.out⟩
      case measure => simp [intOf]; omega
    · have g1 : decide ((i : Int) < (n : Int)) = false := decide_eq_false (by omega)
      have HF : Hid ((l.map f).take i = l.map f) := Lib.hid (List.take_of_length_le (by rw [List.length_map]; have := HN.out; omega))
      have ho := HOWN.out
      rw [HF.out] at ho
      obtain ⟨_, Al, capl, hvl, hsl⟩ := Sl.own ho
      rw [txts_length] at hvl
      rw [List.length_map, ← HN.out] at hvl
      subst hvl
      have HSL := Lib.hid hsl
      clear ho hsl
      go_wp2
      go_ret
      exact ⟨Al, capl, rfl, HSL.out, hb0.out⟩

set_option maxHeartbeats 4000000 in
theorem gat_vlz {S : Nat → Prop} (w : World) {A : Option Addr} {cap n : Nat} {l : List Vl} (h : Lst 2 S vlR w A cap l) (hn : n = l.length) (hm : n ≤ 1000) (kf : Nat) (caps : Array Value) (henter : Enters Tryz.prog kf) (f : Vl → Int)
    (hp : ∀ x ∈ l, ∀ wr, Below w.heap.size w wr → Calls Tryz.prog kf (#[.agg #[.string (strOf x.name), .int .i64 x.num]] ++ caps) wr fun e w' => e = .returned (.int .i64 (f x)) ∧ Below wr.heap.size wr w') :
    Calls Tryz.prog 120 #[.slice A n cap, .func (.func kf) #[] caps] w fun e w' => ∃ A' cap', e = .returned (.slice A' n cap') ∧ Lst 1 (fun g => w.heap.size ≤ g) inR w' A' cap' (l.map f) ∧ Below w.heap.size w w' := by
  have q1 : n ≤ cap := by have := h.l_le; omega
  have q2 := h.l_max
  unfold maxLen at q2
  have hent : ∀ (args : Array Value) (w : World), (callFunc kf args).run Tryz.prog w = .ok (.enter kf args) w := henter
  have H := Lib.hid h
  have HN := Lib.hid hn
  have HM := Lib.hid hm
  have HP := Lib.hid hp
  clear h hn hp henter hm
  go_enter Tryz.func120, Tryz.ntmps120
  go_wp2
  go_loopw [5, 7, 10] (fun v u x wr => ∃ i : Nat, x = .int .i64 (i : Int) ∧ i ≤ n ∧ wr.ownsRow w.heap.size 3 1 v ((l.map f).take i).length (zs ((l.map f).take i)) ∧ Below w.heap.size w wr) (fun v u x _ => n - (intOf x).toNat)
  case atStart => exact ⟨0, rfl, Nat.zero_le _, row_none w _ 1 _, Below.refl _ _⟩
  case round =>
    obtain ⟨i, rfl, hi, hown, hbel⟩ := hrel
    have HOWN := Lib.hid hown
    have hb0 := Lib.hid hbel
    clear hown hbel
    by_cases hlt : i < n
    · have g1 : decide ((i : Int) < (n : Int)) = true := decide_eq_true (by omega)
      obtain ⟨x, hx⟩ : ∃ x, l[i]? = some x := ⟨_, List.getElem?_eq_getElem (by have := HN.out; omega)⟩
      have HTK : Hid ((l.map f).take (i + 1) = (l.map f).take i ++ [f x]) := Lib.hid (split_take (by rw [List.getElem?_map, hx]; rfl))
      have HLN : Hid (((l.map f).take i).length ≤ 1000) := Lib.hid (by have := HM.out; rw [List.length_take]; omega)
      obtain ⟨ge, oe, rfl, _, hc⟩ := vl_at H.out hx
      have HCK := Lib.hid (HP.out x (List.mem_of_getElem? hx))
      obtain ⟨s0, hs0⟩ : ∃ s0, s0 = strOf x.name := ⟨_, rfl⟩
      obtain ⟨z1, hz1⟩ : ∃ z1, z1 = x.num := ⟨_, rfl⟩
      rw [← hs0, ← hz1] at hc HCK
      obtain ⟨c0, c1⟩ := hc _ hb0.out
      obtain ⟨fv, hfv⟩ : ∃ fv, fv = f x := ⟨_, rfl⟩
      have HFV := Lib.hid hfv
      rw [← hfv] at HCK
      clear hfv hx hc hs0 hz1
      go_wp2_with (first
        | (go_at_fn kf; refine (HCK.out _ (hb0.out.alloc hb0.out.size _)).mono ?_; rintro e w2 ⟨rfl, hb⟩; have HO2 := Lib.hid (own_below (own_below HOWN.out ((Below.refl _ _).alloc (Nat.le_refl _) _)) hb); have HB2 := Lib.hid ((hb0.out.alloc hb0.out.size _).trans (hb.mono (hb0.out.alloc hb0.out.size _).size)); clear hb)
        | (at_builtin; refine wpList_append_zs rfl _ _ rfl w.heap.size _ _ _ rfl (own_below HO2.out ((Below.refl _ _).alloc (Nat.le_refl _) _)) _ 1 1 [f x] rfl rfl (by have e := HFV.out; subst e; exact sl_int1 _ _ _) (by have := HLN.out; show _ + 1 ≤ 1000000; omega) (by have := HB2.out.size; simp; omega) ?_; intro va2 w3 ho hg; have HOA := Lib.hid ho; have HBA := Lib.hid ((HB2.out.alloc HB2.out.size _).grown hg (by have := HB2.out.size; simp; omega) (fun k hk => (HO2.out.lt k hk).1)); clear ho hg))
      go_roundw
      case rel => exact ⟨i + 1, by go_num, by omega, (by rw [HTK.out, List.length_append]; exact HOA.out), HBA.out⟩
      case measure => simp [intOf]; omega
    · have g1 : decide ((i : Int) < (n : Int)) = false := decide_eq_false (by omega)
      have HF : Hid ((l.map f).take i = l.map f) := Lib.hid (List.take_of_length_le (by rw [List.length_map]; have := HN.out; omega))
      have ho := HOWN.out
      rw [HF.out] at ho
      obtain ⟨_, Al, capl, hvl, hsl⟩ := zs_own ho
      rw [List.length_map, ← HN.out] at hvl
      subst hvl
      have HSL := Lib.hid hsl
      clear ho hsl
      go_wp2
      go_ret
      exact ⟨Al, capl, rfl, lst_keep HSL.out inR_keep (fun g hg => hg.1) (fun _ _ _ => rfl), hb0.out⟩

set_option maxHeartbeats 4000000 in
theorem gat_fdz {S : Nat → Prop} (w : World) {A : Option Addr} {cap n : Nat} {l : List Fd} (h : Lst 7 S fdR w A cap l) (hn : n = l.length) (hm : n ≤ 1000) (kf : Nat) (caps : Array Value) (henter : Enters Tryz.prog kf) (f : Fd → Int)
    (hp : ∀ x ∈ l, ∀ wr, Below w.heap.size w wr → Calls Tryz.prog kf (#[fdV x] ++ caps) wr fun e w' => e = .returned (.int .i64 (f x)) ∧ Below wr.heap.size wr w') :
    Calls Tryz.prog 123 #[.slice A n cap, .func (.func kf) #[] caps] w fun e w' => ∃ A' cap', e = .returned (.slice A' n cap') ∧ Lst 1 (fun g => w.heap.size ≤ g) inR w' A' cap' (l.map f) ∧ Below w.heap.size w w' := by
  have q1 : n ≤ cap := by have := h.l_le; omega
  have q2 := h.l_max
  unfold maxLen at q2
  have hent : ∀ (args : Array Value) (w : World), (callFunc kf args).run Tryz.prog w = .ok (.enter kf args) w := henter
  have H := Lib.hid h
  have HN := Lib.hid hn
  have HM := Lib.hid hm
  have HP := Lib.hid hp
  clear h hn hp henter hm
  go_enter Tryz.func123, Tryz.ntmps123
  go_wp2
  go_loopw [5, 7, 10] (fun v u x wr => ∃ i : Nat, x = .int .i64 (i : Int) ∧ i ≤ n ∧ wr.ownsRow w.heap.size 3 1 v ((l.map f).take i).length (zs ((l.map f).take i)) ∧ Below w.heap.size w wr) (fun v u x _ => n - (intOf x).toNat)
  case atStart => exact ⟨0, rfl, Nat.zero_le _, row_none w _ 1 _, Below.refl _ _⟩
  case round =>
    obtain ⟨i, rfl, hi, hown, hbel⟩ := hrel
    have HOWN := Lib.hid hown
    have hb0 := Lib.hid hbel
    clear hown hbel
    by_cases hlt : i < n
    · have g1 : decide ((i : Int) < (n : Int)) = true := decide_eq_true (by omega)
      obtain ⟨x, hx⟩ : ∃ x, l[i]? = some x := ⟨_, List.getElem?_eq_getElem (by have := HN.out; omega)⟩
      have HTK : Hid ((l.map f).take (i + 1) = (l.map f).take i ++ [f x]) := Lib.hid (split_take (by rw [List.getElem?_map, hx]; rfl))
      have HLN : Hid (((l.map f).take i).length ≤ 1000) := Lib.hid (by have := HM.out; rw [List.length_take]; omega)
      obtain ⟨ge, oe, rfl, _, hc⟩ := fd_at H.out hx
      have HCK := Lib.hid (HP.out x (List.mem_of_getElem? hx))
      unfold fdV at HCK
      obtain ⟨s0, hs0⟩ : ∃ s0, s0 = strOf x.name := ⟨_, rfl⟩
      obtain ⟨s3, hs3⟩ : ∃ s3, s3 = strOf x.ref := ⟨_, rfl⟩
      obtain ⟨s6, hs6⟩ : ∃ s6, s6 = strOf x.one := ⟨_, rfl⟩
      obtain ⟨z1, hz1⟩ : ∃ z1, z1 = x.num := ⟨_, rfl⟩
      obtain ⟨z2, hz2⟩ : ∃ z2, z2 = x.ty := ⟨_, rfl⟩
      obtain ⟨b4, hb4⟩ : ∃ b4, b4 = x.rep := ⟨_, rfl⟩
      obtain ⟨b5, hb5⟩ : ∃ b5, b5 = x.loose := ⟨_, rfl⟩
      rw [← hs0, ← hs3, ← hs6, ← hz1, ← hz2, ← hb4, ← hb5] at hc HCK
      obtain ⟨c0, c1, c2, c3, c4, c5, c6⟩ := hc _ hb0.out
      obtain ⟨fv, hfv⟩ : ∃ fv, fv = f x := ⟨_, rfl⟩
      have HFV := Lib.hid hfv
      rw [← hfv] at HCK
      clear hfv hx hc hs0 hs3 hs6 hz1 hz2 hb4 hb5
      go_wp2_with (first
        | (go_at_fn kf; refine (HCK.out _ (hb0.out.alloc hb0.out.size _)).mono ?_; rintro e w2 ⟨rfl, hb⟩; have HO2 := Lib.hid (own_below (own_below HOWN.out ((Below.refl _ _).alloc (Nat.le_refl _) _)) hb); have HB2 := Lib.hid ((hb0.out.alloc hb0.out.size _).trans (hb.mono (hb0.out.alloc hb0.out.size _).size)); clear hb)
        | (at_builtin; refine wpList_append_zs rfl _ _ rfl w.heap.size _ _ _ rfl (own_below HO2.out ((Below.refl _ _).alloc (Nat.le_refl _) _)) _ 1 1 [f x] rfl rfl (by have e := HFV.out; subst e; exact sl_int1 _ _ _) (by have := HLN.out; show _ + 1 ≤ 1000000; omega) (by have := HB2.out.size; simp; omega) ?_; intro va2 w3 ho hg; have HOA := Lib.hid ho; have HBA := Lib.hid ((HB2.out.alloc HB2.out.size _).grown hg (by have := HB2.out.size; simp; omega) (fun k hk => (HO2.out.lt k hk).1)); clear ho hg))
      go_roundw
      case rel => exact ⟨i + 1, by go_num, by omega, (by rw [HTK.out, List.length_append]; exact HOA.out), HBA.out⟩
      case measure => simp [intOf]; omega
    · have g1 : decide ((i : Int) < (n : Int)) = false := decide_eq_false (by omega)
      have HF : Hid ((l.map f).take i = l.map f) := Lib.hid (List.take_of_length_le (by rw [List.length_map]; have := HN.out; omega))
      have ho := HOWN.out
      rw [HF.out] at ho
      obtain ⟨_, Al, capl, hvl, hsl⟩ := zs_own ho
      rw [List.length_map, ← HN.out] at hvl
      subst hvl
      have HSL := Lib.hid hsl
      clear ho hsl
      go_wp2
      go_ret
      exact ⟨Al, capl, rfl, lst_keep HSL.out inR_keep (fun g hg => hg.1) (fun _ _ _ => rfl), hb0.out⟩
end Go.Proofs.YtjogamffdbedkaaGreatDoor
