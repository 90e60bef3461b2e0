/- Several texts in one: SxA, SxB. What each proves, and its conditions, stands at its own head. -/
import Derived.Test.YtjogamffdbedkaaGreatDoorPkA22
import Derived.Shelf.Abstract
import Derived.Deep.RegionHeld3
import Derived.Test.YtjogamffdbedkaaGreatDoorPkA2
/- slices.IndexFunc and slices.ContainsFunc at the lists of layer 15, by whatever function is handed on. Conditions: those that each theorem names. -/
namespace Go.Proofs.YtjogamffdbedkaaGreatDoor
open Go.RowKit
set_option linter.unusedVariables false
set_option maxRecDepth 100000

theorem any_none {α : Type} {l : List α} {p : α → Bool} {i n : Nat} (hn : n = l.length) (hi : ¬ i < n) (h : (l.take i).any p = false) : l.any p = false := by
  rw [List.take_of_length_le (by omega)] at h
  exact h

set_option maxHeartbeats 4000000 in
theorem idx_en {S : Nat → Nat → Prop} (w : World) {A : Option Addr} {cap n : Nat} {l : List En} (h : Lst 2 (S 3) (enR S) w A cap l) (hn : n = l.length) (kf : Nat) (caps : Array Value) (henter : Enters Tryz.prog kf) (p : En → Bool)
    (hp : ∀ x ∈ l, ∀ A1 cap1, Lst 2 (S 0) vlR w A1 cap1 x.values → ∀ wr, Below w.heap.size w wr → Calls Tryz.prog kf (#[.agg #[.string (strOf x.name), .slice A1 x.values.length cap1]] ++ caps) wr fun e w' => e = .returned (.bool (p x)) ∧ Below wr.heap.size wr w') :
    Calls Tryz.prog 104 #[.slice A n cap, .func (.func kf) #[] caps] w fun e w' => ∃ r : Int, e = .returned (.int .i64 r) ∧ decide (r ≥ 0) = l.any p ∧ Below w.heap.size w w' := by
  have q1 : n ≤ cap := by have := h.l_le; omega
  have q2 := h.l_max
  unfold maxLen at q2
  have hent : ∀ (args : Array Value) (w : World), (callFunc kf args).run Tryz.prog w = .ok (.enter kf args) w := henter
  have H := Lib.hid h
  have HN := Lib.hid hn
  have HP := Lib.hid hp
  clear h hn hp henter
  go_enter Tryz.func104, Tryz.ntmps104
  go_wp2
  go_loopw [5, 8] (fun u x wr => ∃ i : Nat, x = .int .i64 (i : Int) ∧ i ≤ n ∧ (l.take i).any p = false ∧ Below w.heap.size w wr) (fun u x _ => n - (intOf x).toNat)
  case atStart => exact ⟨0, rfl, Nat.zero_le _, by simp, Below.refl _ _⟩
  case round =>
    obtain ⟨i, rfl, hi, hall, hbel⟩ := hrel
    have HALL := Lib.hid hall
    have hb0 := Lib.hid hbel
    clear hall hbel
    by_cases hlt : i < n
    · have g1 : decide ((i : Int) < (n : Int)) = true := decide_eq_true (by omega)
      obtain ⟨x, hx⟩ : ∃ x, l[i]? = some x := ⟨_, List.getElem?_eq_getElem (by have := HN.out; omega)⟩
      have HANY := Lib.hid (any_snoc l p i x hx)
      have HIT : Hid (p x = true → l.any p = true) := Lib.hid (fun e => any_off hx e)
      obtain ⟨ge, oe, A1, cap1, rfl, _, hc, hl⟩ := en_at H.out hx
      have HCK := Lib.hid (HP.out x (List.mem_of_getElem? hx) A1 cap1 hl _ hb0.out)
      obtain ⟨nv, hnv⟩ : ∃ nv, nv = x.values.length := ⟨_, rfl⟩
      obtain ⟨sn, hsn⟩ : ∃ sn, sn = strOf x.name := ⟨_, rfl⟩
      rw [← hnv] at hc HCK
      rw [← hsn] at hc HCK
      obtain ⟨c0, c1⟩ := hc _ hb0.out
      obtain ⟨b, hbp⟩ : ∃ b, b = p x := ⟨_, rfl⟩
      have HBP := Lib.hid hbp
      rw [← hbp] at HCK HANY
      clear hbp hx hc hl hnv hsn
      cases b with
      | true =>
        go_wp2_with (go_at_fn kf; refine HCK.out.mono ?_; rintro e w2 ⟨rfl, hb⟩; have HB2 := Lib.hid (hb0.out.trans (hb.mono hb0.out.size)); clear hb)
        go_ret
        exact ⟨(i : Int), rfl, (by rw [HIT.out HBP.out.symm]; exact decide_eq_true (by omega)), HB2.out⟩
      | false =>
        go_wp2_with (go_at_fn kf; refine HCK.out.mono ?_; rintro e w2 ⟨rfl, hb⟩; have HB2 := Lib.hid (hb0.out.trans (hb.mono hb0.out.size)); clear hb)
        go_roundw
        case rel => exact ⟨i + 1, by go_num, by omega, by rw [HANY.out, HALL.out]; rfl, HB2.out⟩
        case measure => simp [intOf]; omega
    · have g1 : decide ((i : Int) < (n : Int)) = false := decide_eq_false (by omega)
      have HF := Lib.hid (any_none HN.out hlt HALL.out)
      go_wp2
      go_ret
      exact ⟨-1, rfl, (by rw [HF.out]; rfl), hb0.out⟩
theorem con_en {S : Nat → Nat → Prop} (w : World) {A : Option Addr} {cap n : Nat} {l : List En} (h : Lst 2 (S 3) (enR S) w A cap l) (hn : n = l.length) (kf : Nat) (caps : Array Value) (henter : Enters Tryz.prog kf) (p : En → Bool)
    (hp : ∀ x ∈ l, ∀ A1 cap1, Lst 2 (S 0) vlR w A1 cap1 x.values → ∀ wr, Below w.heap.size w wr → Calls Tryz.prog kf (#[.agg #[.string (strOf x.name), .slice A1 x.values.length cap1]] ++ caps) wr fun e w' => e = .returned (.bool (p x)) ∧ Below wr.heap.size wr w') :
    Calls Tryz.prog 70 #[.slice A n cap, .func (.func kf) #[] caps] w fun e w' => e = .returned (.bool (l.any p)) ∧ Below w.heap.size w w' := by
  have HI := Lib.hid (idx_en w h hn kf caps henter p hp)
  clear h hn henter hp
  go_enter Tryz.func70, Tryz.ntmps70
  go_wp2_with (go_at_call 104; refine HI.out.mono ?_; rintro e w2 ⟨r, rfl, hr, hb⟩; have HR := Lib.hid hr; have HB2 := Lib.hid hb; clear hr hb)
  go_ret
  exact ⟨by rw [← HR.out]; rfl, HB2.out⟩

set_option maxHeartbeats 4000000 in
theorem idx_ms {S : Nat → Nat → Prop} (w : World) {A : Option Addr} {cap n : Nat} {l : List Ms} (h : Lst 3 (S 4) (msR S) w A cap l) (hn : n = l.length) (kf : Nat) (caps : Array Value) (henter : Enters Tryz.prog kf) (p : Ms → Bool)
    (hp : ∀ x ∈ l, ∀ A1 cap1 A2 cap2, Lst 7 (S 1) fdR w A1 cap1 x.fields → Lst 1 (S 2) inR w A2 cap2 x.barred → ∀ wr, Below w.heap.size w wr → Calls Tryz.prog kf (#[.agg #[.string (strOf x.name), .slice A1 x.fields.length cap1, .slice A2 x.barred.length cap2]] ++ caps) wr fun e w' => e = .returned (.bool (p x)) ∧ Below wr.heap.size wr w') :
    Calls Tryz.prog 127 #[.slice A n cap, .func (.func kf) #[] caps] w fun e w' => ∃ r : Int, e = .returned (.int .i64 r) ∧ decide (r ≥ 0) = l.any p ∧ Below w.heap.size w w' := by
  have q1 : n ≤ cap := by have := h.l_le; omega
  have q2 := h.l_max
  unfold maxLen at q2
  have hent : ∀ (args : Array Value) (w : World), (callFunc kf args).run Tryz.prog w = .ok (.enter kf args) w := henter
  have H := Lib.hid h
  have HN := Lib.hid hn
  have HP := Lib.hid hp
  clear h hn hp henter
  go_enter Tryz.func127, Tryz.ntmps127
  go_wp2
  go_loopw [5, 8] (fun u x wr => ∃ i : Nat, x = .int .i64 (i : Int) ∧ i ≤ n ∧ (l.take i).any p = false ∧ Below w.heap.size w wr) (fun u x _ => n - (intOf x).toNat)
  case atStart => exact ⟨0, rfl, Nat.zero_le _, by simp, Below.refl _ _⟩
  case round =>
    obtain ⟨i, rfl, hi, hall, hbel⟩ := hrel
    have HALL := Lib.hid hall
    have hb0 := Lib.hid hbel
    clear hall hbel
    by_cases hlt : i < n
    · have g1 : decide ((i : Int) < (n : Int)) = true := decide_eq_true (by omega)
      obtain ⟨x, hx⟩ : ∃ x, l[i]? = some x := ⟨_, List.getElem?_eq_getElem (by have := HN.out; omega)⟩
      have HANY := Lib.hid (any_snoc l p i x hx)
      have HIT : Hid (p x = true → l.any p = true) := Lib.hid (fun e => any_off hx e)
      obtain ⟨ge, oe, A1, cap1, A2, cap2, rfl, _, hc, hl, hl2⟩ := ms_at H.out hx
      have HCK := Lib.hid (HP.out x (List.mem_of_getElem? hx) A1 cap1 A2 cap2 hl hl2 _ hb0.out)
      obtain ⟨nf, hnf⟩ : ∃ nf, nf = x.fields.length := ⟨_, rfl⟩
      obtain ⟨nb, hnb⟩ : ∃ nb, nb = x.barred.length := ⟨_, rfl⟩
      obtain ⟨sn, hsn⟩ : ∃ sn, sn = strOf x.name := ⟨_, rfl⟩
      rw [← hnf, ← hnb] at hc HCK
      rw [← hsn] at hc HCK
      obtain ⟨c0, c1, c2⟩ := hc _ hb0.out
      obtain ⟨b, hbp⟩ : ∃ b, b = p x := ⟨_, rfl⟩
      have HBP := Lib.hid hbp
      rw [← hbp] at HCK HANY
      clear hbp hx hc hl hl2 hnf hnb hsn
      cases b with
      | true =>
        go_wp2_with (go_at_fn kf; refine HCK.out.mono ?_; rintro e w2 ⟨rfl, hb⟩; have HB2 := Lib.hid (hb0.out.trans (hb.mono hb0.out.size)); clear hb)
        go_ret
        exact ⟨(i : Int), rfl, (by rw [HIT.out HBP.out.symm]; exact decide_eq_true (by omega)), HB2.out⟩
      | false =>
        go_wp2_with (go_at_fn kf; refine HCK.out.mono ?_; rintro e w2 ⟨rfl, hb⟩; have HB2 := Lib.hid (hb0.out.trans (hb.mono hb0.out.size)); clear hb)
        go_roundw
        case rel => exact ⟨i + 1, by go_num, by omega, by rw [HANY.out, HALL.out]; rfl, HB2.out⟩
        case measure => simp [intOf]; omega
    · have g1 : decide ((i : Int) < (n : Int)) = false := decide_eq_false (by omega)
      have HF := Lib.hid (any_none HN.out hlt HALL.out)
      go_wp2
      go_ret
      exact ⟨-1, rfl, (by rw [HF.out]; rfl), hb0.out⟩
theorem con_ms {S : Nat → Nat → Prop} (w : World) {A : Option Addr} {cap n : Nat} {l : List Ms} (h : Lst 3 (S 4) (msR S) w A cap l) (hn : n = l.length) (kf : Nat) (caps : Array Value) (henter : Enters Tryz.prog kf) (p : Ms → Bool)
    (hp : ∀ x ∈ l, ∀ A1 cap1 A2 cap2, Lst 7 (S 1) fdR w A1 cap1 x.fields → Lst 1 (S 2) inR w A2 cap2 x.barred → ∀ wr, Below w.heap.size w wr → Calls Tryz.prog kf (#[.agg #[.string (strOf x.name), .slice A1 x.fields.length cap1, .slice A2 x.barred.length cap2]] ++ caps) wr fun e w' => e = .returned (.bool (p x)) ∧ Below wr.heap.size wr w') :
    Calls Tryz.prog 85 #[.slice A n cap, .func (.func kf) #[] caps] w fun e w' => e = .returned (.bool (l.any p)) ∧ Below w.heap.size w w' := by
  have HI := Lib.hid (idx_ms w h hn kf caps henter p hp)
  clear h hn henter hp
  go_enter Tryz.func85, Tryz.ntmps85
  go_wp2_with (go_at_call 127; refine HI.out.mono ?_; rintro e w2 ⟨r, rfl, hr, hb⟩; have HR := Lib.hid hr; have HB2 := Lib.hid hb; clear hr hb)
  go_ret
  exact ⟨by rw [← HR.out]; rfl, HB2.out⟩

set_option maxHeartbeats 4000000 in
theorem idx_fd {S : Nat → Prop} (w : World) {A : Option Addr} {cap n : Nat} {l : List Fd} (h : Lst 7 S fdR w A cap l) (hn : n = l.length) (kf : Nat) (caps : Array Value) (henter : Enters Tryz.prog kf) (p : Fd → Bool)
    (hp : ∀ x ∈ l, ∀ wr, Below w.heap.size w wr → Calls Tryz.prog kf (#[fdV x] ++ caps) wr fun e w' => e = .returned (.bool (p x)) ∧ Below wr.heap.size wr w') :
    Calls Tryz.prog 128 #[.slice A n cap, .func (.func kf) #[] caps] w fun e w' => ∃ r : Int, e = .returned (.int .i64 r) ∧ decide (r ≥ 0) = l.any p ∧ Below w.heap.size w w' := by
  have q1 : n ≤ cap := by have := h.l_le; omega
  have q2 := h.l_max
  unfold maxLen at q2
  have hent : ∀ (args : Array Value) (w : World), (callFunc kf args).run Tryz.prog w = .ok (.enter kf args) w := henter
  have H := Lib.hid h
  have HN := Lib.hid hn
  have HP := Lib.hid hp
  clear h hn hp henter
  go_enter Tryz.func128, Tryz.ntmps128
  go_wp2
  go_loopw [5, 8] (fun u x wr => ∃ i : Nat, x = .int .i64 (i : Int) ∧ i ≤ n ∧ (l.take i).any p = false ∧ Below w.heap.size w wr) (fun u x _ => n - (intOf x).toNat)
  case atStart => exact ⟨0, rfl, Nat.zero_le _, by simp, Below.refl _ _⟩
  case round =>
    obtain ⟨i, rfl, hi, hall, hbel⟩ := hrel
    have HALL := Lib.hid hall
    have hb0 := Lib.hid hbel
    clear hall hbel
    by_cases hlt : i < n
    · have g1 : decide ((i : Int) < (n : Int)) = true := decide_eq_true (by omega)
      obtain ⟨x, hx⟩ : ∃ x, l[i]? = some x := ⟨_, List.getElem?_eq_getElem (by have := HN.out; omega)⟩
      have HANY := Lib.hid (any_snoc l p i x hx)
      have HIT : Hid (p x = true → l.any p = true) := Lib.hid (fun e => any_off hx e)
      obtain ⟨ge, oe, rfl, _, hc⟩ := fd_at H.out hx
      have HCK := Lib.hid (HP.out x (List.mem_of_getElem? hx) _ hb0.out)
      unfold fdV at HCK
      obtain ⟨s0, hs0⟩ : ∃ s0, s0 = strOf x.name := ⟨_, rfl⟩
      obtain ⟨s3, hs3⟩ : ∃ s3, s3 = strOf x.ref := ⟨_, rfl⟩
      obtain ⟨s6, hs6⟩ : ∃ s6, s6 = strOf x.one := ⟨_, rfl⟩
      obtain ⟨z1, hz1⟩ : ∃ z1, z1 = x.num := ⟨_, rfl⟩
      obtain ⟨z2, hz2⟩ : ∃ z2, z2 = x.ty := ⟨_, rfl⟩
      obtain ⟨b4, hb4⟩ : ∃ b4, b4 = x.rep := ⟨_, rfl⟩
      obtain ⟨b5, hb5⟩ : ∃ b5, b5 = x.loose := ⟨_, rfl⟩
      rw [← hs0, ← hs3, ← hs6, ← hz1, ← hz2, ← hb4, ← hb5] at hc HCK
      obtain ⟨c0, c1, c2, c3, c4, c5, c6⟩ := hc _ hb0.out
      obtain ⟨b, hbp⟩ : ∃ b, b = p x := ⟨_, rfl⟩
      have HBP := Lib.hid hbp
      rw [← hbp] at HCK HANY
      clear hbp hx hc hs0 hs3 hs6 hz1 hz2 hb4 hb5
      cases b with
      | true =>
        go_wp2_with (go_at_fn kf; refine HCK.out.mono ?_; rintro e w2 ⟨rfl, hb⟩; have HB2 := Lib.hid (hb0.out.trans (hb.mono hb0.out.size)); clear hb)
        go_ret
        exact ⟨(i : Int), rfl, (by rw [HIT.out HBP.out.symm]; exact decide_eq_true (by omega)), HB2.out⟩
      | false =>
        go_wp2_with (go_at_fn kf; refine HCK.out.mono ?_; rintro e w2 ⟨rfl, hb⟩; have HB2 := Lib.hid (hb0.out.trans (hb.mono hb0.out.size)); clear hb)
        go_roundw
        case rel => exact ⟨i + 1, by go_num, by omega, by rw [HANY.out, HALL.out]; rfl, HB2.out⟩
        case measure => simp [intOf]; omega
    · have g1 : decide ((i : Int) < (n : Int)) = false := decide_eq_false (by omega)
      have HF := Lib.hid (any_none HN.out hlt HALL.out)
      go_wp2
      go_ret
      exact ⟨-1, rfl, (by rw [HF.out]; rfl), hb0.out⟩
theorem con_fd {S : Nat → Prop} (w : World) {A : Option Addr} {cap n : Nat} {l : List Fd} (h : Lst 7 S fdR w A cap l) (hn : n = l.length) (kf : Nat) (caps : Array Value) (henter : Enters Tryz.prog kf) (p : Fd → Bool)
    (hp : ∀ x ∈ l, ∀ wr, Below w.heap.size w wr → Calls Tryz.prog kf (#[fdV x] ++ caps) wr fun e w' => e = .returned (.bool (p x)) ∧ Below wr.heap.size wr w') :
    Calls Tryz.prog 87 #[.slice A n cap, .func (.func kf) #[] caps] w fun e w' => e = .returned (.bool (l.any p)) ∧ Below w.heap.size w w' := by
  have HI := Lib.hid (idx_fd w h hn kf caps henter p hp)
  clear h hn henter hp
  go_enter Tryz.func87, Tryz.ntmps87
  go_wp2_with (go_at_call 128; refine HI.out.mono ?_; rintro e w2 ⟨r, rfl, hr, hb⟩; have HR := Lib.hid hr; have HB2 := Lib.hid hb; clear hr hb)
  go_ret
  exact ⟨by rw [← HR.out]; rfl, HB2.out⟩

set_option maxHeartbeats 4000000 in
theorem idx_st  (w : World) {A : Option Addr} {cap n : Nat} {l : List (List UInt8)} (h : Sl w A cap (txts l)) (hn : n = l.length) (kf : Nat) (caps : Array Value) (henter : Enters Tryz.prog kf) (p : (List UInt8) → Bool)
    (hp : ∀ x ∈ l, ∀ wr, Below w.heap.size w wr → Calls Tryz.prog kf (#[.string (strOf x)] ++ caps) wr fun e w' => e = .returned (.bool (p x)) ∧ Below wr.heap.size wr w') :
    Calls Tryz.prog 112 #[.slice A n cap, .func (.func kf) #[] caps] w fun e w' => ∃ r : Int, e = .returned (.int .i64 r) ∧ decide (r ≥ 0) = l.any p ∧ Below w.heap.size w w' := by
  have q1 : n ≤ cap := by have := h.le; rw [txts_length] at this; omega
  have q2 := h.max
  unfold maxLen at q2
  have hent : ∀ (args : Array Value) (w : World), (callFunc kf args).run Tryz.prog w = .ok (.enter kf args) w := henter
  have H := Lib.hid h
  have HN := Lib.hid hn
  have HP := Lib.hid hp
  clear h hn hp henter
  go_enter Tryz.func112, Tryz.ntmps112
  go_wp2
  go_loopw [5, 8] (fun u x wr => ∃ i : Nat, x = .int .i64 (i : Int) ∧ i ≤ n ∧ (l.take i).any p = false ∧ Below w.heap.size w wr) (fun u x _ => n - (intOf x).toNat)
  case atStart => exact ⟨0, rfl, Nat.zero_le _, by simp, Below.refl _ _⟩
  case round =>
    obtain ⟨i, rfl, hi, hall, hbel⟩ := hrel
    have HALL := Lib.hid hall
    have hb0 := Lib.hid hbel
    clear hall hbel
    by_cases hlt : i < n
    · have g1 : decide ((i : Int) < (n : Int)) = true := decide_eq_true (by omega)
      obtain ⟨x, hx⟩ : ∃ x, l[i]? = some x := ⟨_, List.getElem?_eq_getElem (by have := HN.out; omega)⟩
      have HANY := Lib.hid (any_snoc l p i x hx)
      have HIT : Hid (p x = true → l.any p = true) := Lib.hid (fun e => any_off hx e)
      obtain ⟨ge, oe, rfl, c1⟩ := H.out.at_ i (.string (strOf x)) (by rw [txts, List.getElem?_map, hx]; rfl)
      have HCK := Lib.hid (HP.out x (List.mem_of_getElem? hx) _ hb0.out)
      have c0 := cell_under hb0.out c1
      obtain ⟨sn, hsn⟩ : ∃ sn, sn = strOf x := ⟨_, rfl⟩
      rw [← hsn] at c0 HCK
      obtain ⟨b, hbp⟩ : ∃ b, b = p x := ⟨_, rfl⟩
      have HBP := Lib.hid hbp
      rw [← hbp] at HCK HANY
      clear hbp hx c1 hsn
      cases b with
      | true =>
        go_wp2_with (go_at_fn kf; refine HCK.out.mono ?_; rintro e w2 ⟨rfl, hb⟩; have HB2 := Lib.hid (hb0.out.trans (hb.mono hb0.out.size)); clear hb)
        go_ret
        exact ⟨(i : Int), rfl, (by rw [HIT.out HBP.out.symm]; exact decide_eq_true (by omega)), HB2.out⟩
      | false =>
        go_wp2_with (go_at_fn kf; refine HCK.out.mono ?_; rintro e w2 ⟨rfl, hb⟩; have HB2 := Lib.hid (hb0.out.trans (hb.mono hb0.out.size)); clear hb)
        go_roundw
        case rel => exact ⟨i + 1, by go_num, by omega, by rw [HANY.out, HALL.out]; rfl, HB2.out⟩
        case measure => simp [intOf]; omega
    · have g1 : decide ((i : Int) < (n : Int)) = false := decide_eq_false (by omega)
      have HF := Lib.hid (any_none HN.out hlt HALL.out)
      go_wp2
      go_ret
      exact ⟨-1, rfl, (by rw [HF.out]; rfl), hb0.out⟩
theorem con_st  (w : World) {A : Option Addr} {cap n : Nat} {l : List (List UInt8)} (h : Sl w A cap (txts l)) (hn : n = l.length) (kf : Nat) (caps : Array Value) (henter : Enters Tryz.prog kf) (p : (List UInt8) → Bool)
    (hp : ∀ x ∈ l, ∀ wr, Below w.heap.size w wr → Calls Tryz.prog kf (#[.string (strOf x)] ++ caps) wr fun e w' => e = .returned (.bool (p x)) ∧ Below wr.heap.size wr w') :
    Calls Tryz.prog 76 #[.slice A n cap, .func (.func kf) #[] caps] w fun e w' => e = .returned (.bool (l.any p)) ∧ Below w.heap.size w w' := by
  have HI := Lib.hid (idx_st w h hn kf caps henter p hp)
  clear h hn henter hp
  go_enter Tryz.func76, Tryz.ntmps76
  go_wp2_with (go_at_call 112; refine HI.out.mono ?_; rintro e w2 ⟨r, rfl, hr, hb⟩; have HR := Lib.hid hr; have HB2 := Lib.hid hb; clear hr hb)
  go_ret
  exact ⟨by rw [← HR.out]; rfl, HB2.out⟩

set_option maxHeartbeats 4000000 in
theorem idx_in {S : Nat → Prop} (w : World) {A : Option Addr} {cap n : Nat} {l : List Int} (h : Lst 1 S inR w A cap l) (hn : n = l.length) (kf : Nat) (caps : Array Value) (henter : Enters Tryz.prog kf) (p : Int → Bool)
    (hp : ∀ x ∈ l, ∀ wr, Below w.heap.size w wr → Calls Tryz.prog kf (#[.int .i64 x] ++ caps) wr fun e w' => e = .returned (.bool (p x)) ∧ Below wr.heap.size wr w') :
    Calls Tryz.prog 140 #[.slice A n cap, .func (.func kf) #[] caps] w fun e w' => ∃ r : Int, e = .returned (.int .i64 r) ∧ decide (r ≥ 0) = l.any p ∧ Below w.heap.size w w' := by
  have q1 : n ≤ cap := by have := h.l_le; omega
  have q2 := h.l_max
  unfold maxLen at q2
  have hent : ∀ (args : Array Value) (w : World), (callFunc kf args).run Tryz.prog w = .ok (.enter kf args) w := henter
  have H := Lib.hid h
  have HN := Lib.hid hn
  have HP := Lib.hid hp
  clear h hn hp henter
  go_enter Tryz.func140, Tryz.ntmps140
  go_wp2
  go_loopw [5, 8] (fun u x wr => ∃ i : Nat, x = .int .i64 (i : Int) ∧ i ≤ n ∧ (l.take i).any p = false ∧ Below w.heap.size w wr) (fun u x _ => n - (intOf x).toNat)
  case atStart => exact ⟨0, rfl, Nat.zero_le _, by simp, Below.refl _ _⟩
  case round =>
    obtain ⟨i, rfl, hi, hall, hbel⟩ := hrel
    have HALL := Lib.hid hall
    have hb0 := Lib.hid hbel
    clear hall hbel
    by_cases hlt : i < n
    · have g1 : decide ((i : Int) < (n : Int)) = true := decide_eq_true (by omega)
      obtain ⟨x, hx⟩ : ∃ x, l[i]? = some x := ⟨_, List.getElem?_eq_getElem (by have := HN.out; omega)⟩
      have HANY := Lib.hid (any_snoc l p i x hx)
      have HIT : Hid (p x = true → l.any p = true) := Lib.hid (fun e => any_off hx e)
      obtain ⟨ge, oe, rfl, _, hc⟩ := in_at H.out hx
      have HCK := Lib.hid (HP.out x (List.mem_of_getElem? hx) _ hb0.out)
      have c0 := hc _ hb0.out
      obtain ⟨b, hbp⟩ : ∃ b, b = p x := ⟨_, rfl⟩
      have HBP := Lib.hid hbp
      rw [← hbp] at HCK HANY
      clear hbp hx hc
      cases b with
      | true =>
        go_wp2_with (go_at_fn kf; refine HCK.out.mono ?_; rintro e w2 ⟨rfl, hb⟩; have HB2 := Lib.hid (hb0.out.trans (hb.mono hb0.out.size)); clear hb)
        go_ret
        exact ⟨(i : Int), rfl, (by rw [HIT.out HBP.out.symm]; exact decide_eq_true (by omega)), HB2.out⟩
      | false =>
        go_wp2_with (go_at_fn kf; refine HCK.out.mono ?_; rintro e w2 ⟨rfl, hb⟩; have HB2 := Lib.hid (hb0.out.trans (hb.mono hb0.out.size)); clear hb)
        go_roundw
        case rel => exact ⟨i + 1, by go_num, by omega, by rw [HANY.out, HALL.out]; rfl, HB2.out⟩
        case measure => simp [intOf]; omega
    · have g1 : decide ((i : Int) < (n : Int)) = false := decide_eq_false (by omega)
      have HF := Lib.hid (any_none HN.out hlt HALL.out)
      go_wp2
      go_ret
      exact ⟨-1, rfl, (by rw [HF.out]; rfl), hb0.out⟩
theorem con_in {S : Nat → Prop} (w : World) {A : Option Addr} {cap n : Nat} {l : List Int} (h : Lst 1 S inR w A cap l) (hn : n = l.length) (kf : Nat) (caps : Array Value) (henter : Enters Tryz.prog kf) (p : Int → Bool)
    (hp : ∀ x ∈ l, ∀ wr, Below w.heap.size w wr → Calls Tryz.prog kf (#[.int .i64 x] ++ caps) wr fun e w' => e = .returned (.bool (p x)) ∧ Below wr.heap.size wr w') :
    Calls Tryz.prog 125 #[.slice A n cap, .func (.func kf) #[] caps] w fun e w' => e = .returned (.bool (l.any p)) ∧ Below w.heap.size w w' := by
  have HI := Lib.hid (idx_in w h hn kf caps henter p hp)
  clear h hn henter hp
  go_enter Tryz.func125, Tryz.ntmps125
  go_wp2_with (go_at_call 140; refine HI.out.mono ?_; rintro e w2 ⟨r, rfl, hr, hb⟩; have HR := Lib.hid hr; have HB2 := Lib.hid hb; clear hr hb)
  go_ret
  exact ⟨by rw [← HR.out]; rfl, HB2.out⟩
end Go.Proofs.YtjogamffdbedkaaGreatDoor

/- slices.Index, slices.Contains at texts and numbers; numbers that rise. Conditions: those that each theorem names. -/
namespace Go.Proofs.YtjogamffdbedkaaGreatDoor
open Go.RowKit
set_option linter.unusedVariables false
set_option maxRecDepth 100000

set_option maxHeartbeats 4000000 in
theorem ind_st  (w : World) {A : Option Addr} {cap n : Nat} {l : List (List UInt8)} (h : Sl w A cap (txts l)) (hn : n = l.length) (m : (List UInt8)) :
    Calls Tryz.prog 130 #[.slice A n cap, .string (strOf m)] w fun e w' => ∃ r : Int, e = .returned (.int .i64 r) ∧ decide (r ≥ 0) = l.any (fun x => decide (x = m)) ∧ w = w' := by
  have q1 : n ≤ cap := by have := h.le; rw [txts_length] at this; omega
  have q2 := h.max
  unfold maxLen at q2
  have H := Lib.hid h
  have HN := Lib.hid hn
  obtain ⟨sm, hsm⟩ : ∃ sm, sm = strOf m := ⟨_, rfl⟩
  have HSM := Lib.hid hsm
  rw [← hsm]
  clear hsm
  clear h hn
  go_enter Tryz.func130, Tryz.ntmps130
  go_wp2
  go_loopw [5, 8] (fun u x wr => ∃ i : Nat, x = .int .i64 (i : Int) ∧ i ≤ n ∧ (l.take i).any (fun x => decide (x = m)) = false ∧ w = wr) (fun u x _ => n - (intOf x).toNat)
  case atStart => exact ⟨0, rfl, Nat.zero_le _, by simp, rfl⟩
  case round =>
    obtain ⟨i, rfl, hi, hall, rfl⟩ := hrel
    have HALL := Lib.hid hall
    clear hall
    by_cases hlt : i < n
    · have g1 : decide ((i : Int) < (n : Int)) = true := decide_eq_true (by omega)
      obtain ⟨x, hx⟩ : ∃ x, l[i]? = some x := ⟨_, List.getElem?_eq_getElem (by have := HN.out; omega)⟩
      have HANY := Lib.hid (any_snoc l (fun x => decide (x = m)) i x hx)
      have HIT : Hid (x = m → l.any (fun x => decide (x = m)) = true) := Lib.hid (fun e => any_off hx (decide_eq_true e))
      obtain ⟨ge, oe, rfl, c0⟩ := H.out.at_ i (.string (strOf x)) (by rw [txts, List.getElem?_map, hx]; rfl)
      obtain ⟨sx, hsx⟩ : ∃ sx, sx = strOf x := ⟨_, rfl⟩
      have HSX := Lib.hid hsx
      rw [← hsx] at c0
      clear hx hsx
      by_cases hab : x = m
      · have HO := Lib.hid (HIT.out hab)
        have es : sx = sm := by rw [HSX.out, HSM.out, hab]
        subst es
        clear hab
        go_wp2
        go_ret
        exact ⟨(i : Int), rfl, (by rw [HO.out]; exact decide_eq_true (by omega)), rfl⟩
      · have HNO : Hid (decide (x = m) = false) := Lib.hid (decide_eq_false hab)
        have hne : ¬ sm.toList = sx.toList := by rw [HSX.out, HSM.out, str_list, str_list]; exact fun e => hab e.symm
        have hne2 : (sm.toList == sx.toList) = false := by rw [HSX.out, HSM.out, strOf_beq]; exact decide_eq_false (fun e => hab e.symm)
        clear hab
        go_wp2
        go_roundw
        case rel => exact ⟨i + 1, by go_num, by omega, by rw [HANY.out, HALL.out, HNO.out]; rfl, by trivial⟩
        case measure => simp [intOf]; omega
    · have g1 : decide ((i : Int) < (n : Int)) = false := decide_eq_false (by omega)
      have HF := Lib.hid (any_none HN.out hlt HALL.out)
      go_wp2
      go_ret
      exact ⟨-1, rfl, (by rw [HF.out]; rfl), rfl⟩
theorem cts_st  (w : World) {A : Option Addr} {cap n : Nat} {l : List (List UInt8)} (h : Sl w A cap (txts l)) (hn : n = l.length) (m : (List UInt8)) :
    Calls Tryz.prog 91 #[.slice A n cap, .string (strOf m)] w fun e w' => e = .returned (.bool (l.any (fun x => decide (x = m)))) ∧ w = w' := by
  have HI := Lib.hid (ind_st w h hn m)
  clear h hn
  go_enter Tryz.func91, Tryz.ntmps91
  go_wp2_with (go_at_call 130; refine HI.out.mono ?_; rintro e w2 ⟨r, rfl, hr, rfl⟩; have HR := Lib.hid hr; clear hr)
  go_ret
  exact ⟨by rw [← HR.out]; rfl, rfl⟩

set_option maxHeartbeats 4000000 in
theorem ind_in {S : Nat → Prop} (w : World) {A : Option Addr} {cap n : Nat} {l : List Int} (h : Lst 1 S inR w A cap l) (hn : n = l.length) (m : Int) :
    Calls Tryz.prog 129 #[.slice A n cap, .int .i64 m] w fun e w' => ∃ r : Int, e = .returned (.int .i64 r) ∧ decide (r ≥ 0) = l.any (fun x => decide (x = m)) ∧ w = w' := by
  have q1 : n ≤ cap := by have := h.l_le; omega
  have q2 := h.l_max
  unfold maxLen at q2
  have H := Lib.hid h
  have HN := Lib.hid hn
  clear h hn
  go_enter Tryz.func129, Tryz.ntmps129
  go_wp2
  go_loopw [5, 8] (fun u x wr => ∃ i : Nat, x = .int .i64 (i : Int) ∧ i ≤ n ∧ (l.take i).any (fun x => decide (x = m)) = false ∧ w = wr) (fun u x _ => n - (intOf x).toNat)
  case atStart => exact ⟨0, rfl, Nat.zero_le _, by simp, rfl⟩
  case round =>
    obtain ⟨i, rfl, hi, hall, rfl⟩ := hrel
    have HALL := Lib.hid hall
    clear hall
    by_cases hlt : i < n
    · have g1 : decide ((i : Int) < (n : Int)) = true := decide_eq_true (by omega)
      obtain ⟨x, hx⟩ : ∃ x, l[i]? = some x := ⟨_, List.getElem?_eq_getElem (by have := HN.out; omega)⟩
      have HANY := Lib.hid (any_snoc l (fun x => decide (x = m)) i x hx)
      have HIT : Hid (x = m → l.any (fun x => decide (x = m)) = true) := Lib.hid (fun e => any_off hx (decide_eq_true e))
      obtain ⟨ge, oe, rfl, _, hc⟩ := in_at H.out hx
      have c0 := hc _ (Below.refl _ _)
      clear hx hc
      by_cases hab : x = m
      · have HO := Lib.hid (HIT.out hab)
        subst hab
        go_wp2
        go_ret
        exact ⟨(i : Int), rfl, (by rw [HO.out]; exact decide_eq_true (by omega)), rfl⟩
      · have HNO : Hid (decide (x = m) = false) := Lib.hid (decide_eq_false hab)
        have g2 : (m == x) = false := beq_false_of_ne (fun e => hab e.symm)
        have g3 : (x == m) = false := beq_false_of_ne hab
        clear hab
        go_wp2
        go_roundw
        case rel => exact ⟨i + 1, by go_num, by omega, by rw [HANY.out, HALL.out, HNO.out]; rfl, by trivial⟩
        case measure => simp [intOf]; omega
    · have g1 : decide ((i : Int) < (n : Int)) = false := decide_eq_false (by omega)
      have HF := Lib.hid (any_none HN.out hlt HALL.out)
      go_wp2
      go_ret
      exact ⟨-1, rfl, (by rw [HF.out]; rfl), rfl⟩
theorem cts_in {S : Nat → Prop} (w : World) {A : Option Addr} {cap n : Nat} {l : List Int} (h : Lst 1 S inR w A cap l) (hn : n = l.length) (m : Int) :
    Calls Tryz.prog 89 #[.slice A n cap, .int .i64 m] w fun e w' => e = .returned (.bool (l.any (fun x => decide (x = m)))) ∧ w = w' := by
  have HI := Lib.hid (ind_in w h hn m)
  clear h hn
  go_enter Tryz.func89, Tryz.ntmps89
  go_wp2_with (go_at_call 129; refine HI.out.mono ?_; rintro e w2 ⟨r, rfl, hr, rfl⟩; have HR := Lib.hid hr; clear hr)
  go_ret
  exact ⟨by rw [← HR.out]; rfl, rfl⟩

set_option maxHeartbeats 4000000 in
theorem srise_any {S : Nat → Prop} (w : World) {A : Option Addr} {cap n : Nat} {l : List Int} (h : Lst 1 S inR w A cap l) (hn : n = l.length) :
    Calls Tryz.prog 122 #[.slice A n cap] w fun e w' => e = .returned (.bool (risesB l)) ∧ w = w' := by
  have hle : n ≤ cap := by have := h.l_le; omega
  have hmx := h.l_max
  unfold maxLen at hmx
  have H := Lib.hid h
  have HN := Lib.hid hn
  clear h hn
  go_enter Tryz.func122, Tryz.ntmps122
  go_wp2
  go_loopw [3, 4, 7] (fun u v x wr => ∃ k : Nat, x = .int .i64 (k : Int) ∧ k ≤ n ∧ w = wr ∧ ∀ (j : Nat) a b, j + 1 < k → l[j]? = some a → l[j + 1]? = some b → a < b) (fun u v x _ => n - (intOf x).toNat)
  case atStart => exact ⟨0, rfl, Nat.zero_le _, rfl, fun j a b hj => absurd hj (Nat.not_lt_zero _)⟩
  case round =>
    obtain ⟨k, rfl, hk, rfl, hall⟩ := hrel
    have HALL := Lib.hid hall
    clear hall
    by_cases hlt : k < n
    · have g1 : decide ((k : Int) < (n : Int)) = true := decide_eq_true (by omega)
      obtain ⟨b, hb⟩ : ∃ b, l[k]? = some b := ⟨_, List.getElem?_eq_getElem (by have := HN.out; omega)⟩
      obtain ⟨g, off, rfl, _, hc⟩ := in_at H.out hb
      have c1 := hc _ (Below.refl _ _)
      have HB := Lib.hid hb
      clear hc
      by_cases hk0 : k = 0
      · subst hk0
        rw [Nat.add_zero] at c1
        have HALL2 : Hid (∀ (j : Nat) a b, j + 1 < 0 + 1 → l[j]? = some a → l[j + 1]? = some b → a < b) := Lib.hid (fun j a b hj => absurd hj (by omega))
        clear hb
        go_wp2
        go_roundw
        case rel => exact ⟨1, by go_num, by omega, by trivial, HALL2.out⟩
        case measure => simp [intOf]; omega
      · obtain ⟨k0, hk0⟩ : ∃ k0, k = k0 + 1 := ⟨k - 1, by omega⟩
        have gp : decide ((k : Int) > 0) = true := decide_eq_true (by omega)
        obtain ⟨a, ha⟩ : ∃ a, l[k0]? = some a := ⟨_, List.getElem?_eq_getElem (by have := HN.out; omega)⟩
        obtain ⟨g', off', e', _, hc'⟩ := in_at H.out ha
        cases e'
        have c3 := hc' _ (Below.refl _ _)
        have HA := Lib.hid ha
        have gx : (k : Int) - 1 = (k0 : Int) := by omega
        have gw : IntKind.i64.wrap ((k : Int) - 1) = (k0 : Int) := by rw [gx]; exact IntWalk.i64_in _ (by omega)
        have hkk : k0 < n := by omega
        have HK0 := Lib.hid hk0
        clear ha hb hk0 hk hc'
        by_cases hr : a < b
        · have HR := Lib.hid hr
          have g2 : decide (a ≥ b) = false := decide_eq_false (by omega)
          have g3 : decide (b ≤ a) = false := decide_eq_false (by omega)
          clear hr
          go_wp2
          go_roundw
          case rel =>
            refine ⟨k + 1, by go_num, by omega, by trivial, fun j x y hj hx hy => ?_⟩
            by_cases hjk : j + 1 < k
            · exact HALL.out j x y hjk hx hy
            · have : j = k0 := by have := HK0.out; omega
              subst this
              have e1 := HA.out.symm.trans hx
              rw [← HK0.out] at hy
              have e2 := HB.out.symm.trans hy
              injection e1 with e1
              injection e2 with e2
              subst e1 e2
              exact HR.out
          case measure => simp [intOf]; omega
        · have HO : Hid (risesB l = false) := Lib.hid (risesB_off (j := k0) HA.out (by rw [← HK0.out]; exact HB.out) hr)
          have g2 : decide (a ≥ b) = true := decide_eq_true (by omega)
          have g3 : decide (b ≤ a) = true := decide_eq_true (by omega)
          clear hr
          go_wp2
          go_ret
          exact ⟨ret_bool' HO.out.symm, rfl⟩
    · have g1 : decide ((k : Int) < (n : Int)) = false := decide_eq_false (by omega)
      have HO : Hid (risesB l = true) := Lib.hid ((risesB_iff l).2 (fun j a b ha hb => HALL.out j a b (by have := (List.getElem?_eq_some_iff.mp hb).1; have := HN.out; omega) ha hb))
      go_wp2
      go_ret
      exact ⟨ret_bool' HO.out.symm, rfl⟩
end Go.Proofs.YtjogamffdbedkaaGreatDoor
