/- Several texts in one: SchLess. What each proves, and its conditions, stands at its own head. -/
import Derived.Test.YtpbhokmpbcmdcaaGreatDoorPkc32
import Derived.Test.YtpbhokmpbcmdcaaGreatDoorPkc27
import Derived.Test.YtpbhokmpbcmdcaaGreatDoorPkc33
import Derived.Test.YtpbhokmpbcmdcaaGreatDoorPkc38
import Derived.Deep.RegionLaw
/- The law SchemaLess over what is asked of the program's layer 15. Conditions: those that each theorem names. -/
namespace Go.Proofs.YtpbhokmpbcmdcaaGreatDoor
open Go.RowKit
set_option linter.unusedVariables false
set_option maxRecDepth 100000

theorem info_ms3 : (Tryz.prog.info? 37).map (fun i => i.size) = some 3 := by kernel_rfl
set_option maxHeartbeats 16000000 in
theorem schemaless_walk {E : World → Prop} (ok : SchCheckOk E) (w : World) (env : E w) {S : Nat → Nat → Prop} {A A2 : Option Addr} {n cap n2 cap2 : Nat} {s : Sc} (h : ScAt S w A n cap A2 n2 cap2 s) (hok : ScOk s) (a : Nat) (ha : a < 256) :
    Calls Tryz.prog 5 #[.agg #[.slice A n cap, .slice A2 n2 cap2], .int .u8 (a : Int)] w fun e w' => e = .returned (.bool true) ∧ Below w.heap.size w w' := by
  have HLV := Lib.hid (fun u (hb : Below w.heap.size w u) => schlive_any ok u (ok.serides _ _ env hb))
  have HSM := Lib.hid (fun u (hb : Below w.heap.size w u) => rvsmall_any u (scAt_bel h hb) hok)
  have HBX := Lib.hid (bx_start w #[.slice A n cap, .slice A2 n2 cap2] 25)
  have r0 := obj_cell HBX.out.b_blk 0
  have r1 := obj_cell HBX.out.b_blk 1
  cases hs : smallT s with
  | false =>
    rw [hs] at HSM
    clear ok env h hok hs
    go_enter Tryz.func5, Tryz.ntmps5
    go_wp2_with (first
      | (go_at_call 6; refine (HSM.out _ HBX.out.b_bel).mono ?_; rintro e w1 ⟨rfl, hb⟩; replace HBX := Lib.hid (bx_step HBX.out hb); clear hb)
      | (go_at_call 7; refine (HLV.out _ HBX.out.b_bel).mono ?_; rintro e w4 ⟨rfl, hb⟩; replace HBX := Lib.hid (bx_step HBX.out hb); clear hb))
    go_ret
    exact ⟨rfl, HBX.out.b_bel⟩
  | true =>
    have HCK := Lib.hid (fun u (hb : Below w.heap.size w u) => ok.scheck _ u _ _ _ _ _ _ _ (ok.serides _ _ env hb) (scAt_bel h hb) hok hs)
    rw [hs] at HSM
    by_cases hc : checkT s = 0
    case neg =>
      obtain ⟨C, hC⟩ : ∃ C, C = checkT s := ⟨_, rfl⟩
      rw [← hC] at HCK hc
      have e1 : (C == 0) = false := beq_false_of_ne hc
      have e2 : (C != 0) = true := by rw [bne, e1]; rfl
      clear ok env h hok hs hC
      go_enter Tryz.func5, Tryz.ntmps5
      go_wp2_with (first
        | (go_at_call 6; refine (HSM.out _ HBX.out.b_bel).mono ?_; rintro e w1 ⟨rfl, hb⟩; replace HBX := Lib.hid (bx_step HBX.out hb); replace r0 := obj_cell HBX.out.b_blk 0; replace r1 := obj_cell HBX.out.b_blk 1; clear hb)
        | (go_at_call 9; refine (HCK.out _ HBX.out.b_bel).mono ?_; rintro e w2 ⟨rfl, hb⟩; replace HBX := Lib.hid (bx_step HBX.out hb); clear hb)
        | (go_at_call 8; refine (snum_any _ _).mono ?_; rintro e wn ⟨rfl, rfl⟩)
        | (go_at_call 7; refine (HLV.out _ HBX.out.b_bel).mono ?_; rintro e w4 ⟨rfl, hb⟩; replace HBX := Lib.hid (bx_step HBX.out hb); clear hb))
      go_ret
      exact ⟨rfl, HBX.out.b_bel⟩
    case pos =>
      rw [hc] at HCK
      have hparts := check_parts hc
      have hn2 : 0 < n2 := by
        have := hparts.2.1
        unfold noneT at this
        rw [Bool.or_eq_false_iff, decide_eq_false_iff_not] at this
        rw [h.s_nm]
        omega
      have hsizes := small_sizes hs
      have HRC := Lib.hid (fun u (hb : Below w.heap.size w u) => rvcopy_any u (scAt_bel h hb) (by rw [h.s_ne, h.s_nm]; exact hsizes))
      obtain ⟨i, hi⟩ : ∃ i, i = a % n2 := ⟨_, rfl⟩
      have hil : i < n2 := by rw [hi]; exact Nat.mod_lt _ hn2
      have hrem : (a : Int).tmod (n2 : Int) = (i : Int) := by rw [hi, Int.tmod_eq_emod_of_nonneg (by omega)]; rfl
      have hrem2 : IntKind.i64.wrap ((a : Int).tmod (n2 : Int)) = (i : Int) := by
        rw [hrem, IntKind.wrap_i64]
        have : i ≤ a := by rw [hi]; exact Nat.mod_le _ _
        omega
      have hcv : IntKind.i64.wrap (a : Int) = (a : Int) := by rw [IntKind.wrap_i64]; omega
      have hne0 : ¬ (n2 : Int) = 0 := by omega
      have hne1 : ((n2 : Int) == 0) = false := beq_false_of_ne hne0
      obtain ⟨x, hx⟩ : ∃ x, s.msgs[i]? = some x := ⟨_, List.getElem?_eq_getElem (by rw [← h.s_nm]; exact hil)⟩
      have HX := Lib.hid hx
      have HSS := Lib.hid hs
      have HOK := Lib.hid hok
      have HCZ := Lib.hid hc
      have H := Lib.hid h
      have HQ := Lib.hid ok.scheck
      have HRID := Lib.hid (fun u (hb : Below w.heap.size w u) => ok.serides _ _ env hb)
      obtain ⟨m1, m2, m3, m4⟩ := scAt_max h
      clear ok env h hok hs hc hparts hsizes hx hi
      go_enter Tryz.func5, Tryz.ntmps5
      go_wp2_with (first
        | (go_at_call 6; refine (HSM.out _ HBX.out.b_bel).mono ?_; rintro e w1 ⟨rfl, hb⟩; replace HBX := Lib.hid (bx_step HBX.out hb); replace r0 := obj_cell HBX.out.b_blk 0; replace r1 := obj_cell HBX.out.b_blk 1; clear hb)
        | (go_at_call 9; refine (HCK.out _ HBX.out.b_bel).mono ?_; rintro e w2 ⟨rfl, hb⟩; replace HBX := Lib.hid (bx_step HBX.out hb); replace r0 := obj_cell HBX.out.b_blk 0; replace r1 := obj_cell HBX.out.b_blk 1; clear hb)
        | (go_at_call 8; refine (snum_any _ _).mono ?_; rintro e wn ⟨rfl, rfl⟩))
      obtain ⟨gx, ox, A5, cap5, A6, cap6, rfl, -, hcx, -, -⟩ := ms_at H.out.s_m HX.out
      obtain ⟨sx, hsx⟩ : ∃ sx, sx = strOf x.name := ⟨_, rfl⟩
      have HSX := Lib.hid hsx
      rw [← hsx] at hcx
      have HCX := Lib.hid hcx
      clear hcx hsx r0 r1
      go_loopg [6] n2 (fun gz y6 wr => ∃ k : Nat, y6 = .int .i64 (k : Int) ∧ k + gz = n2 ∧ (∀ (k' : Nat) m, k' < k → k' ≠ i → s.msgs[k']? = some m → ∀ f ∈ m.fields, ¬ (f.ty = 15 ∧ f.ref = x.name)) ∧ Bx w wr (.cells #[.slice A n cap, .slice (some ⟨gx, ox, none⟩) n2 cap2] 25 (0, 0)))
      case atStart => exact ⟨0, rfl, by omega, fun k' m hk => absurd hk (Nat.not_lt_zero _), HBX.out⟩
      case round =>
        obtain ⟨k, rfl, hk, hno, hbx⟩ := hrel
        clear HBX
        have HBX := Lib.hid hbx
        have HNO := Lib.hid hno
        clear hbx hno
        obtain ⟨g0, hg0⟩ : ∃ g0, g0 = gk := ⟨_, rfl⟩
        subst hg0
        have r0 := obj_cell HBX.out.b_blk 0
        have r1 := obj_cell HBX.out.b_blk 1
        by_cases hltk : k < n2
        · have tk : decide ((k : Int) < (n2 : Int)) = true := decide_eq_true (by omega)
          obtain ⟨m, hm⟩ : ∃ m, s.msgs[k]? = some m := ⟨_, List.getElem?_eq_getElem (by have := H.out.s_nm; omega)⟩
          have HMI := Lib.hid hm
          obtain ⟨ge, oe, A1, cap1, A3, cap3, eg, -, hc, hl, -⟩ := ms_at H.out.s_m hm
          injection eg with eg
          injection eg with eg1 eg2
          subst eg1 eg2
          have q1 := hl.l_le
          have q2 := hl.l_max
          unfold maxLen at q2
          have HL := Lib.hid hl
          obtain ⟨nf, hnf⟩ : ∃ nf, nf = m.fields.length := ⟨_, rfl⟩
          have HNF := Lib.hid hnf
          rw [← hnf] at hc q1
          have HC := Lib.hid hc
          clear hm hl hnf hc
          obtain ⟨c0, c1, c2⟩ := HC.out _ HBX.out.b_bel
          go_wp2
          clear c0 c1 c2 r0 r1
          go_loopg [7] nf (fun gz y7 wr => ∃ j : Nat, y7 = .int .i64 (j : Int) ∧ j + gz = nf ∧ (k ≠ i → ∀ (j' : Nat) f, j' < j → m.fields[j']? = some f → ¬ (f.ty = 15 ∧ f.ref = x.name)) ∧ Bx w wr (.cells #[.slice A n cap, .slice (some ⟨gx, ox, none⟩) n2 cap2] 25 (0, 0)))
          case atStart => exact ⟨0, rfl, by omega, fun _ j' f hj => absurd hj (Nat.not_lt_zero _), HBX.out⟩
          case round =>
            obtain ⟨j, rfl, hj, hni, hbx⟩ := hrel
            clear HBX
            have HBX := Lib.hid hbx
            have HNI := Lib.hid hni
            clear hbx hni
            obtain ⟨g1, hg1⟩ : ∃ g1, g1 = gk := ⟨_, rfl⟩
            subst hg1
            have r0 := obj_cell HBX.out.b_blk 0
            have r1 := obj_cell HBX.out.b_blk 1
            obtain ⟨c0, c1, c2⟩ := HC.out _ HBX.out.b_bel
            by_cases hltj : j < nf
            · have tj : decide ((j : Int) < (nf : Int)) = true := decide_eq_true (by omega)
              obtain ⟨f, hf⟩ : ∃ f, m.fields[j]? = some f := ⟨_, List.getElem?_eq_getElem (by have := HNF.out; omega)⟩
              have HFI := Lib.hid hf
              obtain ⟨gf, of, rfl, -, hcf⟩ := fd_at HL.out hf
              obtain ⟨d0, d1, d2, d3, d4, d5, d6⟩ := hcf _ HBX.out.b_bel
              clear hf hcf
              obtain ⟨name, num, ty, ref, rep, loose, one⟩ := f
              dsimp only at d0 d1 d2 d3 d4 d5 d6
              obtain ⟨sn1, hsn1⟩ : ∃ z, z = strOf name := ⟨_, rfl⟩
              obtain ⟨sr1, hsr1⟩ : ∃ z, z = strOf ref := ⟨_, rfl⟩
              obtain ⟨so1, hso1⟩ : ∃ z, z = strOf one := ⟨_, rfl⟩
              have HSR := Lib.hid hsr1
              rw [← hsn1] at d0
              rw [← hsr1] at d3
              rw [← hso1] at d6
              clear hsn1 hsr1 hso1
              have HBA : Hid (Bx w (wr.alloc (.cells #[.string sn1, .int .i64 num, .int .i64 ty, .string sr1, .bool rep, .bool loose, .string so1] 39)) (.cells #[.slice A n cap, .slice (some ⟨gx, ox, none⟩) n2 cap2] 25 (0, 0))) := Lib.hid (bx_step HBX.out ((Below.refl _ wr).alloc (Nat.le_refl _) _))
              have a0 := obj_cell HBA.out.b_blk 0
              have a1 := obj_cell HBA.out.b_blk 1
              have HFX : Hid ((wr.alloc (.cells #[.string sn1, .int .i64 num, .int .i64 ty, .string sr1, .bool rep, .bool loose, .string so1] 39)).heap[wr.heap.size]? = some (.cells #[.string sn1, .int .i64 num, .int .i64 ty, .string sr1, .bool rep, .bool loose, .string so1] 39 (0, 0))) := Lib.hid (heap_alloc_new wr _)
              have f2 := obj_cell HFX.out 2
              have f3 := obj_cell HFX.out 3
              obtain ⟨n0, -, -⟩ := HCX.out _ HBA.out.b_bel
              by_cases hki : k = i
              · subst hki
                go_wp2
                go_quiet (fail)
                clear HBX
                have HBX := Lib.hid (bx_drew HBA.out nq)
                clear a0 a1 f2 f3
                go_wp2
                go_roundg (g1 - 1)
                case measure => omega
                case rel => exact ⟨j + 1, by go_num, by omega, fun hk j' f' hj' hf' => by
                  by_cases hjj : j' < j
                  · exact HNI.out hk j' f' hjj hf'
                  · have e : j' = j := by omega
                    subst e
                    have e2 := HFI.out.symm.trans hf'
                    injection e2 with e2
                    subst e2
                    exact absurd rfl hk, HBX.out⟩

              · have e1 : ((k : Int) == (i : Int)) = false := beq_false_of_ne (by omega)
                have e2 : ((k : Int) != (i : Int)) = true := by rw [bne, e1]; rfl
                have e3 : ¬ (k : Int) = (i : Int) := by omega
                have HKI := Lib.hid hki
                clear hki
                by_cases h15 : ty = 15
                · subst h15
                  by_cases hr : ref = x.name
                  · have e4 : (sr1.toList == sx.toList) = true := by rw [HSR.out, HSX.out, strOf_beq]; exact decide_eq_true hr
                    have e5 : sr1.toList = sx.toList := by rw [HSR.out, HSX.out, hr]
                    clear hr
                    go_wp2
                    go_quiet (fail)
                    clear HBX
                    have HBX := Lib.hid (bx_drew HBA.out nq)
                    clear a0 a1 f2 f3
                    go_wp2_with (first
                      | (go_at_call 7; refine (HLV.out _ HBX.out.b_bel).mono ?_; rintro e w4 ⟨rfl, hb⟩; replace HBX := Lib.hid (bx_step HBX.out hb); clear hb))
                    go_ret
                    exact ⟨rfl, HBX.out.b_bel⟩
                  · have e4 : (sr1.toList == sx.toList) = false := by rw [HSR.out, HSX.out, strOf_beq]; exact decide_eq_false hr
                    have e5 : ¬ sr1.toList = sx.toList := fun e => by rw [e] at e4; simp at e4
                    have HR := Lib.hid hr
                    clear hr
                    go_wp2
                    go_quiet (fail)
                    clear HBX
                    have HBX := Lib.hid (bx_drew HBA.out nq)
                    clear a0 a1 f2 f3
                    go_wp2
                    go_roundg (g1 - 1)
                    case measure => omega
                    case rel => exact ⟨j + 1, by go_num, by omega, fun hk j' f' hj' hf' => by
                      by_cases hjj : j' < j
                      · exact HNI.out hk j' f' hjj hf'
                      · have e : j' = j := by omega
                        subst e
                        have e2 := HFI.out.symm.trans hf'
                        injection e2 with e2
                        subst e2
                        exact fun e => HR.out e.2, HBX.out⟩

                · have e4 : (ty == 15) = false := beq_false_of_ne h15
                  have HR := Lib.hid h15
                  go_wp2
                  go_quiet (fail)
                  clear HBX
                  have HBX := Lib.hid (bx_drew HBA.out nq)
                  clear a0 a1 f2 f3
                  go_wp2
                  go_roundg (g1 - 1)
                  case measure => omega
                  case rel => exact ⟨j + 1, by go_num, by omega, fun hk j' f' hj' hf' => by
                    by_cases hjj : j' < j
                    · exact HNI.out hk j' f' hjj hf'
                    · have e : j' = j := by omega
                      subst e
                      have e2 := HFI.out.symm.trans hf'
                      injection e2 with e2
                      subst e2
                      exact fun e => HR.out e.1, HBX.out⟩

            · have tj : decide ((j : Int) < (nf : Int)) = false := decide_eq_false (by omega)
              go_wp2
              go_roundg (g0 - 1)
              case measure => omega
              case rel => exact ⟨k + 1, by go_num, by omega, fun k' m' hk' hne hm' f hf => by
                by_cases hkk : k' < k
                · exact HNO.out k' m' hkk hne hm' f hf
                · have e : k' = k := by omega
                  subst e
                  have e2 := HMI.out.symm.trans hm'
                  injection e2 with e2
                  subst e2
                  obtain ⟨j', hj'⟩ := List.mem_iff_getElem?.mp hf
                  exact HNI.out hne j' f (by have := (List.getElem?_eq_some_iff.mp hj').1; have := HNF.out; omega) hj', HBX.out⟩
        · have tk : decide ((k : Int) < (n2 : Int)) = false := decide_eq_false (by omega)
          have hall : ∀ (k' : Nat) m, k' ≠ i → s.msgs[k']? = some m → ∀ f ∈ m.fields, ¬ (f.ty = 15 ∧ f.ref = x.name) := fun k' m hne hm => HNO.out k' m (by have := (List.getElem?_eq_some_iff.mp hm).1; have := H.out.s_nm; omega) hne hm
          have HLC := Lib.hid (less_check HX.out HCZ.out hall)
          clear hall
          go_wp2_with (first
            | (go_at_call 11; refine (HRC.out _ HBX.out.b_bel).mono ?_; rintro e w3 ⟨B, m, cb, B2, n3, cb2, rfl, hat, hb⟩; obtain rfl : n2 = n3 := H.out.s_nm.trans hat.s_nm.symm; obtain ⟨g2, o2, A7, cap7, A8, cap8, rfl, -, -, -, -⟩ := ms_at hat.s_m HX.out; have HAT := Lib.hid hat; have HBW := Lib.hid (And.intro hb.size HBX.out.b_bel.size); replace HBX := Lib.hid (bx_step HBX.out hb); clear hb hat r0 r1))
          have h34 : Below w3.heap.size w3 (w3.alloc (.cells #[.slice B m cb, .slice (some ⟨g2, o2, none⟩) n2 cb2] 25)).drew := ((Below.refl _ w3).alloc (Nat.le_refl _) _).drew
          obtain ⟨hgb, hgt, news, s1, hcell, s2, s3, hsc⟩ := sc_less (base := wr.heap.size) (top := w3.heap.size) (scAt_bel HAT.out h34) (fun k b hk => ⟨hk.1, by obtain ⟨cs, hcs⟩ := hk.2; exact ⟨cs, (h34.block b (lt_of_block hcs)).trans hcs⟩⟩) (fun k b hk => by obtain ⟨cs, hcs⟩ := hk.2; exact lt_of_block hcs) hil
          obtain ⟨i0, hi0, hz1⟩ : ∃ i0, Tryz.prog.info? 37 = some i0 ∧ i0.size = 3 := Option.map_eq_some_iff.mp info_ms3
          obtain ⟨z1, z2, z3, z4⟩ := scAt_max HAT.out
          obtain ⟨A0, hA0, hnews⟩ : ∃ A0 : Addr, (if cb2 = i + 1 then some (⟨g2, o2, none⟩ : Addr) else some ⟨g2, o2 + (i + 1) * 3, none⟩) = some A0 ∧ Hid (∀ (j : Nat) (u : Value), news[j]? = some u → (w3.alloc (.cells #[.slice B m cb, .slice (some ⟨g2, o2, none⟩) n2 cb2] 25)).drew.cell? (A0.add j) = some u) := by
            by_cases hcb : cb2 = i + 1
            · refine ⟨⟨g2, o2, none⟩, by simp [hcb], fun j u hu => ?_⟩
              have h0 : news.length = 0 := by rw [s1]; omega
              rw [List.length_eq_zero_iff.1 h0] at hu
              simp at hu
            · exact ⟨⟨g2, o2 + (i + 1) * 3, none⟩, by simp [hcb], fun j u hu => by rw [Addr.add_lit]; exact hcell j u hu⟩
          have S1 := Lib.hid s1
          have S2 := Lib.hid s2
          have S3 := Lib.hid s3
          have hic : i ≤ cb2 := by omega
          have hwr : IntKind.i64.wrap ((i : Int) + 1) = (i : Int) + 1 := by rw [IntKind.wrap_i64]; omega
          have hp0 : (0 : Int) ≤ (i : Int) + 1 := by omega
          have hp1 : (i : Int) + 1 ≤ (n2 : Int) := by omega
          have hp2 : ((i : Int) + 1).toNat = i + 1 := by omega
          have hbx : (w3.alloc (.cells #[.slice B m cb, .slice (some ⟨g2, o2, none⟩) n2 cb2] 25)).drew.heap[w3.heap.size]? = some (.cells #[.slice B m cb, .slice (some ⟨g2, o2, none⟩) n2 cb2] 25 (0, 0)) := heap_alloc_new w3 _
          have hbx2 : ((w3.alloc (.cells #[.slice B m cb, .slice (some ⟨g2, o2, none⟩) n2 cb2] 25)).drew.setCells g2 (o2 + i * 3) news).heap[w3.heap.size]? = some (.cells #[.slice B m cb, .slice (some ⟨g2, o2, none⟩) n2 cb2] 25 (0, 0)) := (World.heap_setCells_other _ g2 _ _ (lt_of_block hbx) (by omega)).trans hbx
          have k0 := obj_cell hbx2 0
          have k1 := obj_cell hbx2 1
          have e0 := obj_free hbx2 0
          have e1 := obj_free hbx2 1
          have hbel : Below w.heap.size w (((w3.alloc (.cells #[.slice B m cb, .slice (some ⟨g2, o2, none⟩) n2 cb2] 25)).drew.setCells g2 (o2 + i * 3) news).setCell ⟨w3.heap.size, 1, none⟩ (.slice (some ⟨g2, o2, none⟩) (n2 - 1) cb2)) := (Lib.below_setCells_w (by have := HBX.out.b_bel.size; have := HBW.out; omega) news _ _ |> fun hb => ((HBX.out.b_bel.trans (h34.mono HBX.out.b_bel.size)).trans hb).setCell (HBX.out.b_bel.size) _)
          have hsc5 : ScAt (fun _ b => b < w3.heap.size) (((w3.alloc (.cells #[.slice B m cb, .slice (some ⟨g2, o2, none⟩) n2 cb2] 25)).drew.setCells g2 (o2 + i * 3) news).setCell ⟨w3.heap.size, 1, none⟩ (.slice (some ⟨g2, o2, none⟩) (n2 - 1) cb2)) B m cb (some ⟨g2, o2, none⟩) (n2 - 1) cb2 (lessT s i) := scAt_mutd hsc (mutd_set (base := w3.heap.size) (top := w3.heap.size + 1) (mutd_refl _ _ _) (Nat.le_refl _) (Nat.lt_succ_self _) _) (fun k b hk => ⟨hk, .inl hk⟩)
          have HC5 := Lib.hid (HQ.out _ _ _ _ _ _ _ _ _ (HRID.out _ hbel) hsc5 (less_ok HOK.out) (less_small HSS.out))
          rw [HLC.out, ← H.out.s_nm] at HC5
          have HB5 := Lib.hid hbel
          obtain ⟨L, hL⟩ : ∃ L, L = n2 - 1 := ⟨_, rfl⟩
          rw [← hL] at HC5 HB5
          have hnn : i + (n2 - (i + 1)) = L := by omega
          clear hcell s1 s2 s3 hsc hgb hgt h34 hbx hbx2 hbel hsc5
          by_cases hone : n2 = 1
          · rw [if_pos hone] at HC5
            obtain rfl : L = 0 := by omega
            have HON := Lib.hid hone
            clear hone hL
            go_region_law (refine step_append_room rfl (.tmp 78) (.tmp 83) 23 rfl 37 i0 3 Tryz.underlying23 hi0 hz1 g2 o2 i cb2 (by simp [Act.eval, Act.put]) A0 (n2 - (i + 1)) (cb2 - (i + 1)) news (by simp [Act.eval, Act.put]) S1.out hnews.out S2.out (by omega) S3.out ?_)
            all_goals
              go_wp2_with (first
                | (go_at_call 9; refine HC5.out.mono ?_; rintro e w6 ⟨rfl, hb⟩; have HB6 := Lib.hid (HB5.out.trans (hb.mono HB5.out.size)); clear hb)
                | (go_at_call 8; refine (snum_any _ _).mono ?_; rintro e wn ⟨rfl, rfl⟩)
                | (go_at_call 7; refine (HLV.out _ HB6.out).mono ?_; rintro e w7 ⟨rfl, hb⟩; have HB7 := Lib.hid (HB6.out.trans (hb.mono HB6.out.size)); clear hb))
            all_goals go_ret
            all_goals exact ⟨rfl, HB7.out⟩
          · rw [if_neg hone] at HC5
            have l1 : ((L : Int) == 0) = false := beq_false_of_ne (by omega)
            have l2 : ¬ (L : Int) = 0 := by omega
            have HON := Lib.hid hone
            clear hone hL
            go_region_law (refine step_append_room rfl (.tmp 78) (.tmp 83) 23 rfl 37 i0 3 Tryz.underlying23 hi0 hz1 g2 o2 i cb2 (by simp [Act.eval, Act.put]) A0 (n2 - (i + 1)) (cb2 - (i + 1)) news (by simp [Act.eval, Act.put]) S1.out hnews.out S2.out (by omega) S3.out ?_)
            all_goals
              go_wp2_with (first
                | (go_at_call 9; refine HC5.out.mono ?_; rintro e w6 ⟨rfl, hb⟩; have HB6 := Lib.hid (HB5.out.trans (hb.mono HB5.out.size)); clear hb)
                | (go_at_call 8; refine (snum_any _ _).mono ?_; rintro e wn ⟨rfl, rfl⟩)
                | (go_at_call 7; refine (HLV.out _ HB6.out).mono ?_; rintro e w7 ⟨rfl, hb⟩; have HB7 := Lib.hid (HB6.out.trans (hb.mono HB6.out.size)); clear hb))
            all_goals go_ret
            all_goals exact ⟨rfl, HB7.out⟩
theorem schemaless_came {E : World → Prop} (ok : SchCheckOk E) (w : World) (env : E w) {S : Nat → Nat → Prop} {A A2 : Option Addr} {n cap n2 cap2 : Nat} {s : Sc} (h : ScAt S w A n cap A2 n2 cap2 s) (hok : ScOk s) (a : Int) (ha : 0 ≤ a ∧ a < 256) :
    Calls Tryz.prog 5 #[.agg #[.slice A n cap, .slice A2 n2 cap2], .int .u8 a] w fun e w' => e = .returned (.bool true) ∧ Below w.heap.size w w' := by
  obtain ⟨b, rfl⟩ : ∃ b : Nat, a = (b : Int) := ⟨a.toNat, by omega⟩
  exact schemaless_walk ok w env h hok b (by omega)
end Go.Proofs.YtpbhokmpbcmdcaaGreatDoor
