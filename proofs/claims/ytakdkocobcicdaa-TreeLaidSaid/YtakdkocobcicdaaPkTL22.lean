/- Several texts in one: TpH. What each proves, and its conditions, stands at its own head. -/
import Derived.Test.YtakdkocobcicdaaPkTL21
import Derived.Lib.Overlaps
import Derived.Deep.RegionLaw
/- The program's With of trees, in parts: a list of slots without some, and with one more. Conditions: those that each theorem names. -/
namespace Go.Proofs.Ytakdkocobcicdaa
open Go.RowKit
set_option linter.unusedVariables false
set_option maxRecDepth 100000

theorem zero_slt : ∀ w, (zeroValue 32).run Try.prog w = .ok (.agg #[.int .i64 0, .slice none 0 0]) w := fun w => by
  obtain ⟨i, i1, i2, i3, i4⟩ := info_ofs info_slt
  simp [zeroValue, typeInfo, i1, i2]
theorem filter_take {p : Slt → Bool} {l : List Slt} {i : Nat} (h : ∀ (j : Nat) (x : Slt), j < i → l[j]? = some x → p x = false) : (l.take i).filter (fun s => !p s) = l.take i := by
  apply List.filter_eq_self.mpr
  intro x hx
  obtain ⟨j, hj, e⟩ := List.mem_iff_getElem.mp hx
  rw [List.length_take] at hj
  have : p x = false := h j x (by omega) (by rw [← e, List.getElem_take]; exact List.getElem?_eq_getElem (by omega))
  simp [this]
theorem filter_step {p : Slt → Bool} {l : List Slt} {j : Nat} {x : Slt} (h : l[j]? = some x) : (l.take (j + 1)).filter (fun s => !p s) = (l.take j).filter (fun s => !p s) ++ (if p x = true then [] else [x]) := by
  rw [take_snoc' h, List.filter_append]
  congr 1
  by_cases hp : p x = true
  · rw [if_pos hp]; simp [hp]
  · rw [if_neg hp]; simp [hp]

set_option maxHeartbeats 16000000 in
theorem delfunc_slt {R : List Value → Slt → Prop} (hRR : ∀ cs x, R cs x → ∃ A1 n1 c1, cs = [.int .i64 x.snum, .slice A1 n1 c1]) {base : Nat} {w0 : World} (w : World) {v : Value} {l : List Slt} (h : OwnL base 32 2 R w v l) (hm : l.length ≤ 1000) (kf : Nat) (caps : Array Value) (henter : Enters Try.prog kf) {p : Slt → Bool} (hp : SaysOf kf caps base w0 p) (hb : Below base w0 w) (hbs : base ≤ w.heap.size) :
    Calls Try.prog 35 #[v, .func (.func kf) #[] caps] w fun e w' => ∃ v', e = .returned v' ∧ OwnL base 32 2 R w' v' (l.filter fun s => !p s) ∧ Below base w0 w' := by
  obtain ⟨A, cap, hv, hA1, hA2⟩ := ownL_form h
  subst hv
  obtain ⟨A', c', ev, hL⟩ := ownL_lst (RR := fun _ => R) h
  cases ev
  have hL2 := hL (fun _ => True) (fun _ _ => trivial)
  have HX := Lib.hid (idx_slt (fun _ cs x hx => hRR cs x hx) w hL2 rfl kf caps henter hp hb hbs)
  have hent : ∀ (args : Array Value) (w : World), (callFunc kf args).run Try.prog w = .ok (.enter kf args) w := henter
  obtain ⟨n, hn⟩ : ∃ n, n = l.length := ⟨_, rfl⟩
  rw [← hn] at h hA1 hm HX ⊢
  unfold maxLen at hA2
  have HN := Lib.hid hn
  have HO := Lib.hid h
  have HP := Lib.hid hp
  have HB0 := Lib.hid hb
  have HBS := Lib.hid hbs
  have HRR := Lib.hid hRR
  clear h hn hp hb hbs hL hL2 henter hRR
  go_enter Try.func35, Try.ntmps35
  go_wp2_with (go_at_call 38; refine HX.out.mono ?_; rintro e w1 ⟨r, rfl, hr, hb1⟩; have HR := Lib.hid hr; have HB1 := Lib.hid hb1; clear hr hb1; obtain ⟨b, hb⟩ : ∃ b, b = (r == (-1)) := ⟨_, rfl⟩; have HBB := Lib.hid hb; have tb : (r == (-1)) = b := hb.symm; clear hb; cases b)
  · have hi : ∃ i : Nat, r = (i : Int) ∧ i < n ∧ (∀ (j : Nat) (x : Slt), j < i → l[j]? = some x → p x = false) ∧ ∀ x, l[i]? = some x → p x = true := by
      rcases HR.out with ⟨h1, _⟩ | ⟨i, h1, h2, h3, h4⟩
      · rw [h1] at tb; exact absurd tb (by decide)
      · exact ⟨i, h1, by have := HN.out; omega, h3, h4⟩
    obtain ⟨i0, rfl, hi0, hpre, hat⟩ := hi
    have hOn := HO.out
    rcases A with _ | ad
    · exfalso
      obtain ⟨css, c1, c2, c3⟩ := hOn
      obtain ⟨A9, c9, e9, _, _, h0, _⟩ := own_form c3
      cases e9
      have := (h0 rfl).2
      have := HN.out
      omega
    have hg : ∃ g, ad = ⟨g, 0, none⟩ := by
      obtain ⟨css, c1, c2, c3⟩ := hOn
      obtain ⟨A9, c9, e9, _, _, _, h1⟩ := own_form c3
      cases e9
      exact h1 ad rfl
    obtain ⟨g, rfl⟩ := hg
    obtain ⟨-, hbg, css0, tail0, hrow0, hzip0⟩ := rowC_of hOn
    have HROW0 := Lib.hid (rowC_bel hrow0 HB1.out)
    have HZ0 := Lib.hid hzip0
    have HG := Lib.hid hbg
    have HKE0 : Hid ((l.take (i0 + 1)).filter (fun s => !p s) = l.take i0) := Lib.hid (by
      obtain ⟨x, hx⟩ : ∃ x, l[i0]? = some x := ⟨_, List.getElem?_eq_getElem (by have := HN.out; omega)⟩
      rw [filter_step hx, filter_take hpre, if_pos (hat x hx), List.append_nil])
    have HBW : Hid (Below base w0 w1) := Lib.hid (HB0.out.trans (HB1.out.mono HBS.out))
    have HBS1 : Hid (base ≤ w1.heap.size) := Lib.hid (Nat.le_trans HBS.out HB1.out.size)
    clear hrow0 hzip0 hbg hOn hpre hat HX tb HBB HR
    (try go_wp2)
    go_loopg [5, 6, 7] (n - (i0 + 1)) (fun gz x5 x6 x7 wr => ∃ (i j : Nat) (css : List (List Value)) (tail : List Value), x5 = .int .i64 (i : Int) ∧ x6 = .int .i64 (j : Int) ∧ j + gz = n ∧ i < j ∧ css.length = n ∧ RowC wr g cap css tail ∧ Zip R (css.take i) ((l.take j).filter fun s => !p s) ∧ (∀ q, j ≤ q → css[q]? = css0[q]?) ∧ Below base w0 wr ∧ base ≤ wr.heap.size)
    case atStart => exact ⟨i0, i0 + 1, css0, tail0, rfl, (by have e1 : Go.RowKit.wrap64 ((i0 : Int) + 1) = ((i0 + 1 : Nat) : Int) := (by unfold Go.RowKit.wrap64; omega); simp only [e1]), by omega, by omega, by rw [HZ0.out.1, HN.out], HROW0.out, by rw [HKE0.out]; exact zip_take HZ0.out i0, fun _ _ => rfl, HBW.out, HBS1.out⟩
    case round =>
      obtain ⟨i, j, css, tail, rfl, rfl, hj, hij, hcl, hrow, hzip, hsame, hbw, hbs⟩ := hrel
      have HROW := Lib.hid hrow
      have HZ := Lib.hid hzip
      have HSAME := Lib.hid hsame
      have HBW := Lib.hid hbw
      have HBS2 := Lib.hid hbs
      have HCL := Lib.hid hcl
      have hic : i ≤ css.length := by omega
      have HIC := Lib.hid hic
      clear hrow hzip hsame hbw hbs hcl hic
      obtain ⟨g0, hg0⟩ : ∃ g0, g0 = gk := ⟨_, rfl⟩
      subst hg0
      by_cases hlt : j < n
      · have tj : decide ((j : Int) < (n : Int)) = true := decide_eq_true (by omega)
        obtain ⟨x, hx⟩ : ∃ x, l[j]? = some x := ⟨_, List.getElem?_eq_getElem (by have := HN.out; omega)⟩
        obtain ⟨d, hd⟩ : ∃ d, css[j]? = some d := ⟨_, List.getElem?_eq_getElem (by have := HCL.out; omega)⟩
        have hRd : R d x := HZ0.out.2 j d x ((HSAME.out j (Nat.le_refl _)).symm.trans hd) hx
        obtain ⟨A1, n1, c1, rfl⟩ := HRR.out d x hRd
        have HRD := Lib.hid hRd
        have HFS := Lib.hid (filter_step (p := p) hx)
        have HD := Lib.hid hd
        have c0 : wr.cell? ⟨g, j * 2, none⟩ = some (.int .i64 x.snum) := rowC_cell HROW.out hd (i := 0) rfl
        have c1' : wr.cell? ⟨g, j * 2 + 1, none⟩ = some (.slice A1 n1 c1) := rowC_cell HROW.out hd (i := 1) rfl
        have HB1A : Hid (∀ o, Below base w0 (wr.alloc o)) := Lib.hid (fun o => HBW.out.alloc HBS2.out o)
        have HCK := Lib.hid (fun o => HP.out x A1 n1 c1 (wr.alloc o) (HB1A.out o))
        have HRA : Hid (∀ o, RowC (wr.alloc o) g cap css tail) := Lib.hid (fun o => rowC_bel HROW.out ((Below.refl _ wr).alloc (Nat.le_refl _) o))
        obtain ⟨di, hdi⟩ : ∃ di, css[i]? = some di := ⟨_, List.getElem?_eq_getElem (by have := HCL.out; omega)⟩
        have hdi2 := HROW.out.r_two di (List.mem_of_getElem? hdi)
        obtain ⟨u0, u1, hdu⟩ : ∃ u0 u1, di = [u0, u1] := by
          match di, hdi2 with
          | [a, b], _ => exact ⟨a, b, rfl⟩
        subst hdu
        have HDI := Lib.hid hdi
        obtain ⟨sn, hsn⟩ : ∃ z, z = x.snum := ⟨_, rfl⟩
        rw [← hsn] at c0 HCK HRD HD
        obtain ⟨b, hbp⟩ : ∃ b, b = p x := ⟨_, rfl⟩
        have HBP := Lib.hid hbp
        rw [← hbp] at HCK HFS
        clear hbp hx hd hdi hdi2 hRd hsn
        cases b with
        | true =>
          go_wp2_with (go_at_fn kf; refine (HCK.out _).mono ?_; rintro e w2 ⟨rfl, hb⟩; have HB2 := Lib.hid ((HB1A.out _).trans (hb.mono (Nat.le_trans HBS2.out (by simp)))); have HR2 := Lib.hid (rowC_bel (HRA.out _) hb); have HS2 := Lib.hid (Nat.le_trans (show base ≤ (wr.alloc _).heap.size from Nat.le_trans HBS2.out (by simp)) hb.size); clear hb)
          go_roundg (g0 - 1)
          case measure => omega
          case rel => exact ⟨i, j + 1, css, tail, rfl, by go_num, by omega, by omega, HCL.out, HR2.out, by have := HFS.out; simp at this; rw [this]; exact HZ.out, fun q hq => HSAME.out q (by omega), HB2.out, HS2.out⟩
        | false =>
          go_wp2_with (go_at_fn kf; refine (HCK.out _).mono ?_; rintro e w2 ⟨rfl, hb⟩; have HB2 := Lib.hid ((HB1A.out _).trans (hb.mono (Nat.le_trans HBS2.out (by simp)))); have HR2 := Lib.hid (rowC_bel (HRA.out _) hb); have HS2 := Lib.hid (Nat.le_trans (show base ≤ (wr.alloc _).heap.size from Nat.le_trans HBS2.out (by simp)) hb.size); have f0 := rowC_free HR2.out (i * 2); have f1 := rowC_free HR2.out (i * 2 + 1); have d0 : w2.cell? ⟨g, i * 2, none⟩ = some u0 := rowC_cell HR2.out HDI.out (i := 0) rfl; have d1 : w2.cell? ⟨g, i * 2 + 1, none⟩ = some u1 := rowC_cell HR2.out HDI.out (i := 1) rfl; have x0 := obj_cell ((hb.block wr.heap.size (by simp)).trans (heap_alloc_new wr (.cells #[.int .i64 sn, .slice A1 n1 c1] 32))) 0; have x1 := obj_cell ((hb.block wr.heap.size (by simp)).trans (heap_alloc_new wr (.cells #[.int .i64 sn, .slice A1 n1 c1] 32))) 1; clear hb)
          have hic2 : i < css.length := by have := HCL.out; omega
          have HNR := Lib.hid (rowC_set HR2.out hic2 (a := .int .i64 sn) (b := .slice A1 n1 c1) rfl rfl)
          have HNB : Hid (Below base w0 ((w2.setCell ⟨g, i * 2, none⟩ (.int .i64 sn)).setCell ⟨g, i * 2 + 1, none⟩ (.slice A1 n1 c1))) := Lib.hid ((HB2.out.setCell (p := ⟨g, i * 2, none⟩) HG.out _).setCell (p := ⟨g, i * 2 + 1, none⟩) HG.out _)
          have HNZ : Hid (Zip R ((css.set i [.int .i64 sn, .slice A1 n1 c1]).take (i + 1)) ((l.take (j + 1)).filter fun s => !p s)) := Lib.hid (by
            have e := HFS.out
            simp at e
            rw [e]
            have e2 : (css.set i [.int .i64 sn, .slice A1 n1 c1]).take (i + 1) = css.take i ++ [[.int .i64 sn, .slice A1 n1 c1]] := by
              rw [take_snoc' (x := [.int .i64 sn, .slice A1 n1 c1]) (by rw [List.getElem?_set_self hic2]), List.take_set_of_le (Nat.le_refl _)]
            rw [e2]
            exact zip_app HZ.out (zip_one HRD.out))
          have HNS : Hid (∀ q, j + 1 ≤ q → (css.set i [.int .i64 sn, .slice A1 n1 c1])[q]? = css0[q]?) := Lib.hid (fun q hq => by rw [List.getElem?_set_ne (by omega)]; exact HSAME.out q (by omega))
          have HSZ2 : Hid (base ≤ ((w2.setCell ⟨g, i * 2, none⟩ (.int .i64 sn)).setCell ⟨g, i * 2 + 1, none⟩ (.slice A1 n1 c1)).heap.size) := Lib.hid (by simp [World.setCell]; exact HS2.out)
          clear hic2
          go_wp2
          go_roundg (g0 - 1)
          case measure => omega
          case rel => exact ⟨i + 1, j + 1, css.set i [.int .i64 sn, .slice A1 n1 c1], tail, by go_num, by go_num, by omega, by omega, by rw [List.length_set]; exact HCL.out, HNR.out, HNZ.out, HNS.out, HNB.out, HSZ2.out⟩
      · have tj : decide ((j : Int) < (n : Int)) = false := decide_eq_false (by omega)
        have hjn : j = n := by omega
        have hin : i < n := by omega
        obtain ⟨w9, hc9, ⟨tl9, hr9⟩, hb9⟩ := rowC_clear HROW.out (i := i) (by have := HCL.out; omega) zero_slt
        rw [HCL.out] at hc9
        have hicap : ¬ cap = i := by omega
        have HR9 := Lib.hid hr9
        have HB9 := Lib.hid (hb9 base w0 HBW.out HG.out HBS2.out)
        have HZF : Hid (Zip R (css.take i) (l.filter fun s => !p s)) := Lib.hid (by
          have := HZ.out
          rw [hjn, List.take_of_length_le (l := l) (by have := HN.out; omega)] at this
          exact this)
        have HLF : Hid (i = (l.filter fun s => !p s).length) := Lib.hid (by
          have := HZF.out.1
          rw [List.length_take] at this
          have := HIC.out
          omega)
        clear hr9 hb9 hjn
        go_wp2
        go_ret
        exact ⟨_, rfl, by rw [HLF.out]; exact ownL_of_row HR9.out HZF.out HG.out, HB9.out⟩
  · have HF : Hid ((l.filter fun s => !p s) = l) := Lib.hid (by
      rcases HR.out with ⟨_, h2⟩ | ⟨i, h1, _⟩
      · exact List.filter_eq_self.mpr (fun x hx => by simp [h2 x hx])
      · rw [h1] at tb
        have : ((i : Int) == -1) = false := beq_false_of_ne (by omega)
        rw [this] at tb
        cases tb)
    have HBW : Hid (Below base w0 w1) := Lib.hid (HB0.out.trans (HB1.out.mono HBS.out))
    clear tb
    (try go_wp2)
    go_ret
    exact ⟨_, rfl, by rw [HF.out]; exact ownL_bel HO.out (fun _ _ h => h) HB1.out, HBW.out⟩
end Go.Proofs.Ytakdkocobcicdaa
