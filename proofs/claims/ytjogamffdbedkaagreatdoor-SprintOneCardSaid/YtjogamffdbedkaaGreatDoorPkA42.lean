/- Several texts in one: SxJ. What each proves, and its conditions, stands at its own head. -/
import Derived.Test.YtjogamffdbedkaaGreatDoorPkA40
import Derived.Test.YtjogamffdbedkaaGreatDoorPkA5
/- What the program's layer 15 asks of a whole schema, on: names, names there twice, what fields refer to. Conditions: those that each theorem names. -/
namespace Go.Proofs.YtjogamffdbedkaaGreatDoor
open Go.RowKit
set_option linter.unusedVariables false
set_option maxRecDepth 100000

theorem sx_flat_le {α β : Type} {l : List α} {f : α → List β} {m : Nat} (h : ∀ x ∈ l, (f x).length ≤ m) : (l.flatMap f).length ≤ l.length * m := by
  induction l with
  | nil => simp
  | cons a r ih =>
    rw [List.flatMap_cons, List.length_append, List.length_cons, Nat.succ_mul]
    have := h a (List.mem_cons_self)
    have := ih (fun x hx => h x (List.mem_cons_of_mem _ hx))
    omega
/-- The names that unnamed asks for, up to enum i. -/
def namesTo (s : Sc) (i : Nat) : List (List UInt8) := (eNames s ++ mNames s) ++ (s.enums.take i).flatMap vNames
theorem names_len {s : Sc} (h : Few s) (i : Nat) : (namesTo s i).length ≤ 100 := by
  unfold namesTo eNames mNames
  rw [List.length_append, List.length_append, List.length_map, List.length_map]
  have h1 := h.few_e
  have h2 := h.few_m
  have h3 : ((s.enums.take i).flatMap vNames).length ≤ (s.enums.take i).length * 8 := sx_flat_le (fun x hx => by unfold vNames; rw [List.length_map]; exact h.few_v x (List.mem_of_mem_take hx))
  have h4 : (s.enums.take i).length ≤ 3 := by rw [List.length_take]; omega
  omega

set_option maxHeartbeats 8000000 in
theorem sunnamed_any {S : Nat → Nat → Prop} (w : World) {A A2 : Option Addr} {n cap n2 cap2 : Nat} {s : Sc} (h : ScAt S w A n cap A2 n2 cap2 s) (hfew : Few s) :
    Calls Tryz.prog 42 #[.agg #[.slice A n cap, .slice A2 n2 cap2]] w fun e w' => e = .returned (.bool (scTextT s)) ∧ Below w.heap.size w w' := by
  obtain ⟨m1, m2, m3, m4⟩ := scAt_max h
  have hm1 : n ≤ 1000 := by have := hfew.few_e; have := h.s_ne; omega
  have hm2 : n2 ≤ 1000 := by have := hfew.few_m; have := h.s_nm; omega
  have H := Lib.hid h
  have HBX0 := Lib.hid (bx_start w #[.slice A n cap, .slice A2 n2 cap2] 25)
  have HBX := Lib.hid (bx_drew HBX0.out 1)
  have HE := Lib.hid (fun u (hb : Below w.heap.size w u) => senums_any u (scAt_bel h hb) hm1)
  have HM := Lib.hid (fun u (hb : Below w.heap.size w u) => smsgs_any u (scAt_bel h hb) hm2)
  have HK : Hid (∀ u, Bx w u (.cells #[.slice A n cap, .slice A2 n2 cap2] 25 (0, 0)) → u.cell? ⟨w.heap.size, 0, none⟩ = some (.slice A n cap) ∧ u.cell? ⟨w.heap.size, 1, none⟩ = some (.slice A2 n2 cap2)) := Lib.hid (fun u hb => ⟨obj_cell hb.b_blk 0, obj_cell hb.b_blk 1⟩)
  have HNE : Hid (n = (eNames s).length) := Lib.hid (by unfold eNames; rw [List.length_map]; exact h.s_ne)
  have HNM : Hid (n2 = (mNames s).length) := Lib.hid (by unfold mNames; rw [List.length_map]; exact h.s_nm)
  have HNL := Lib.hid (fun i => names_len hfew i)
  have HV8 : Hid (∀ e ∈ s.enums, e.values.length ≤ 1000) := Lib.hid (fun e he => by have := hfew.few_v e he; omega)
  have HP := Lib.hid (unnamed_plain s)
  have HM1 := Lib.hid hm1
  have HM2 := Lib.hid hm2
  have r0 := obj_cell (HBX0.out).b_blk 0
  have r1 := obj_cell (HBX0.out).b_blk 1
  clear h hfew HBX0 hm1 hm2
  go_enter Tryz.func42, Tryz.ntmps42
  go_wp2
  go_region_held3 (fun w' => w'.cell? ⟨w.heap.size, 0, none⟩ = some (.slice A n cap) ∧ w'.cell? ⟨w.heap.size, 1, none⟩ = some (.slice A2 n2 cap2))
    (first | exact HK.out _ HBX.out | exact HK.out _ (bx_step HBX.out (up_box _ _)))
    (first
      | (go_at_call 73; refine (HE.out _ HBX.out.b_bel).mono ?_; rintro e w1 ⟨Ae, ce, rfl, hs, hb⟩; replace HBX := Lib.hid (bx_step HBX.out hb); have HS1 := Lib.hid hs; clear hs hb)
      | (go_at_call 74; refine (HM.out _ HBX.out.b_bel).mono ?_; rintro e w2 ⟨Am, cm, rfl, hs, hb⟩; replace HBX := Lib.hid (bx_step HBX.out hb); replace HS1 := Lib.hid (HS1.out.below hb (Nat.le_refl _)); have HS2 := Lib.hid hs; clear hs hb)
      | (go_at_call 72; refine (sconcat_any _ _ (obj_cell (heap_alloc_new w2 _) 0) (obj_cell (heap_alloc_new w2 _) 1) (HS1.out.below (up_box w2 _) (Nat.le_refl _)) (HS2.out.below (up_box w2 _) (Nat.le_refl _)) HNE.out HNM.out HM1.out HM2.out).mono ?_; rintro e w3 ⟨v0, rfl, ho, hb⟩; have HOWN := Lib.hid (own_mono ho (Nat.le_trans HBX.out.b_bel.size (up_box w2 _).size)); replace HBX := Lib.hid (bx_step (bx_step HBX.out (up_box w2 _)) hb); clear ho hb))
  obtain ⟨r0, r1⟩ := HK.out _ HBX.out
  go_wp2
  have HB3 := Lib.hid HBX.out.b_bel
  clear r0 r1 HS1 HS2 HE HM
  go_loopg [3, 15] n (fun gz x0 x1 wr => ∃ i : Nat, x1 = .int .i64 (i : Int) ∧ i + gz = n ∧ wr.ownsRow w.heap.size 9 1 x0 (namesTo s i).length (txts (namesTo s i)) ∧ Below w.heap.size w wr)
  case atStart => exact ⟨0, rfl, by omega, (by unfold namesTo; rw [List.take_zero, List.flatMap_nil, List.append_nil]; exact HOWN.out), HB3.out⟩
  case round =>
    obtain ⟨i, rfl, hi, hown, hbel⟩ := hrel
    have HOW := Lib.hid hown
    have HB := Lib.hid hbel
    clear hown hbel HOWN HB3 HBX
    obtain ⟨g0, hg0⟩ : ∃ g0, g0 = gk := ⟨_, rfl⟩
    subst hg0
    by_cases hlti : i < n
    · have ti : decide ((i : Int) < (n : Int)) = true := decide_eq_true (by omega)
      obtain ⟨x, hx⟩ : ∃ x, s.enums[i]? = some x := ⟨_, List.getElem?_eq_getElem (by have := H.out.s_ne; omega)⟩
      have HTK : Hid (namesTo s (i + 1) = namesTo s i ++ vNames x) := Lib.hid (by unfold namesTo; rw [flat_snoc _ _ _ _ hx]; simp only [List.append_assoc])
      have HVL : Hid ((vNames x).length ≤ 1000) := Lib.hid (by unfold vNames; rw [List.length_map]; exact HV8.out x (List.mem_of_getElem? hx))
      obtain ⟨ge, oe, A1, cap1, rfl, _, hc, hl⟩ := en_at H.out.s_e hx
      have HV := Lib.hid (fun sn u (hb : Below w.heap.size w u) => svals_any u sn (lst_keep hl vlR_keep (fun _ h => h) (bel_keep hb)) rfl (HV8.out x (List.mem_of_getElem? hx)))
      have HVN : Hid (x.values.length = (vNames x).length) := Lib.hid (by unfold vNames; rw [List.length_map])
      obtain ⟨nv, hnv⟩ : ∃ nv, nv = x.values.length := ⟨_, rfl⟩
      obtain ⟨sn, hsn⟩ : ∃ sn, sn = strOf x.name := ⟨_, rfl⟩
      rw [← hnv] at hc HV HVN
      rw [← hsn] at hc
      obtain ⟨c0, c1⟩ := hc _ HB.out
      clear hx hc hl hnv hsn
      go_wp2_with (first
        | (go_at_call 75; refine (HV.out _ _ (HB.out.alloc HB.out.size _)).mono ?_; rintro e w4 ⟨A', cap', rfl, hs, hb⟩; have HSV := Lib.hid hs; have HO2 := Lib.hid (own_below (own_below HOW.out (up_box _ _)) hb); have HB4 := Lib.hid ((HB.out.alloc HB.out.size _).trans (hb.mono (HB.out.alloc HB.out.size _).size)); clear hs hb)
        | (at_builtin; refine wpList_append_sl rfl _ _ rfl w.heap.size _ _ _ rfl HO2.out _ nv _ (vNames x) rfl HVN.out HSV.out (by have := HNL.out i; have := HVL.out; omega) HB4.out.size ?_; intro va2 w5 ho hg; have HOA := Lib.hid ho; have HBA := Lib.hid (HB4.out.grown hg HB4.out.size (fun k hk => (HO2.out.lt k hk).1)); clear ho hg))
      go_roundg (g0 - 1)
      case measure => omega
      case rel => exact ⟨i + 1, by go_num, by omega, (by rw [HTK.out, List.length_append]; exact HOA.out), HBA.out⟩
    · have ti : decide ((i : Int) < (n : Int)) = false := decide_eq_false (by omega)
      have HF : Hid (namesTo s i = (eNames s ++ mNames s) ++ s.enums.flatMap vNames) := Lib.hid (by unfold namesTo; rw [show s.enums.take i = s.enums from List.take_of_length_le (by have := H.out.s_ne; omega)])
      have ho := HOW.out
      rw [HF.out] at ho
      obtain ⟨_, Al, capl, hvl, hsl⟩ := Sl.own ho
      rw [txts_length] at hvl
      obtain ⟨nl, hnl⟩ : ∃ nl, nl = ((eNames s ++ mNames s) ++ s.enums.flatMap vNames).length := ⟨_, rfl⟩
      rw [← hnl] at hvl
      subst hvl
      have HCF := Lib.hid (con_st wr hsl hnl 77 #[] en_bad1 badName (fun t _ u _ => sbad_any t u))
      rw [HP.out] at HCF
      clear ho hsl hnl
      go_wp2_with (go_at_call 76; refine HCF.out.mono ?_; rintro e w6 ⟨rfl, hb⟩; have HB6 := Lib.hid (HB.out.trans (hb.mono HB.out.size)); clear hb)
      go_ret
      exact ⟨rfl, HB6.out⟩
end Go.Proofs.YtjogamffdbedkaaGreatDoor
