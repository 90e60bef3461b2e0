/- Several texts in one: SpE. What each proves, and its conditions, stands at its own head. -/
import Derived.Test.YtjogamffdbedkaaGreatDoorPkA35
import Derived.Test.YtjogamffdbedkaaGreatDoorPkA37
import Derived.Test.YtjogamffdbedkaaGreatDoorPkA31
import Derived.Test.YtjogamffdbedkaaGreatDoorPkA45
/- The program's layer 17: Enum, Message, Text: all that is asked of it. Conditions: those that each theorem names. -/
namespace Go.Proofs.YtjogamffdbedkaaGreatDoor
open Go.RowKit
set_option linter.unusedVariables false
set_option maxRecDepth 100000

theorem ln_first (B : Nat) (w : World) (hB : B ≤ w.heap.size) : Ln B w.heap.size [] (w.alloc (.cells #[.pointer none, .slice none 0 0] 49)) :=
  .inl ⟨hB, .slice none 0 0, heap_alloc_new w _, World.ownsRowF_of (World.ownsRow_nil _ _ _ _), by simp [Value.ownBlock]⟩
theorem enumText_some (x : En) : enumText x ≠ [] := by unfold enumText enumHead; simp
theorem msgText_some (x : Ms) : msgText x ≠ [] := by unfold msgText msgHead; simp

set_option maxHeartbeats 1000000 in
theorem spenum_any {S : Nat → Prop} (w : World) (env : FlEnv w) {A : Option Addr} {cap nv : Nat} {x : En} (hl : Lst 2 S vlR w A cap x.values) (hnv : nv = x.values.length) (hf : EnFits x) :
    Calls Tryz.prog 10 #[.agg #[.string (strOf x.name), .slice A nv cap]] w fun e w' => e = .returned (.string (strOf (enumText x))) ∧ Below w.heap.size w w' := by
  obtain ⟨sn, hsn⟩ : ∃ sn, sn = strOf x.name := ⟨_, rfl⟩
  rw [← hsn]
  obtain ⟨w2, hw2⟩ : ∃ w2, w2 = (w.alloc (.cells #[.string sn, .slice A nv cap] 36)).alloc (.cells #[.pointer none, .slice none 0 0] 49) := ⟨_, rfl⟩
  have hb : Below w.heap.size w w2 := by rw [hw2]; exact ((Below.refl _ w).alloc (Nat.le_refl _) _).alloc (by simp) _
  have hln : Ln w.heap.size (w.heap.size + 1) [] w2 := by
    have h := ln_first w.heap.size (w.alloc (.cells #[.string sn, .slice A nv cap] 36)) (by simp)
    rw [World.size_alloc] at h
    rw [hw2]; exact h
  have HE := Lib.hid (lnenum_any w (w.heap.size + 1) [] w2 hb env.2 hln hl hnv hf sn hsn (by simp))
  have HW2 := Lib.hid hw2
  have HB := Lib.hid hb
  have HT := Lib.hid (fun u (h : LnTo w.heap.size (w.heap.size + 1) (enumText x) w2 u) => lnwhole_any _ _ _ (enumText_some x) u h.n_ln (Nat.le_trans hb.size h.n_bel.size))
  clear env hl hnv hf hsn hw2 hb hln
  go_enter Tryz.func10, Tryz.ntmps10
  go_wp2_with (first
    | (go_at_call 20; (with_reducible rw [← HW2.out]); refine HE.out.mono ?_; rintro e w3 ⟨rfl, h3⟩; have H3 := Lib.hid h3; clear h3)
    | (go_at_call 17; refine (HT.out _ H3.out).mono ?_; rintro e w4 ⟨rfl, h4⟩; have H4 := Lib.hid h4; clear h4))
  go_ret
  exact ⟨rfl, HB.out.trans (H3.out.n_bel.trans H4.out)⟩

set_option maxHeartbeats 1000000 in
theorem spmsg_any {S T : Nat → Prop} (w : World) (env : FlEnv w) {A1 A3 : Option Addr} {c1 c3 nf nb : Nat} {x : Ms} (hl : Lst 7 S fdR w A1 c1 x.fields) (hl2 : Lst 1 T inR w A3 c3 x.barred) (hnf : nf = x.fields.length) (hnb : nb = x.barred.length) (hf : MsFits x) :
    Calls Tryz.prog 8 #[.agg #[.string (strOf x.name), .slice A1 nf c1, .slice A3 nb c3]] w fun e w' => e = .returned (.string (strOf (msgText x))) ∧ Below w.heap.size w w' := by
  obtain ⟨sn, hsn⟩ : ∃ sn, sn = strOf x.name := ⟨_, rfl⟩
  rw [← hsn]
  obtain ⟨w2, hw2⟩ : ∃ w2, w2 = (w.alloc (.cells #[.string sn, .slice A1 nf c1, .slice A3 nb c3] 32)).alloc (.cells #[.pointer none, .slice none 0 0] 49) := ⟨_, rfl⟩
  have hb : Below w.heap.size w w2 := by rw [hw2]; exact ((Below.refl _ w).alloc (Nat.le_refl _) _).alloc (by simp) _
  have hln : Ln w.heap.size (w.heap.size + 1) [] w2 := by
    have h := ln_first w.heap.size (w.alloc (.cells #[.string sn, .slice A1 nf c1, .slice A3 nb c3] 32)) (by simp)
    rw [World.size_alloc] at h
    rw [hw2]; exact h
  have HE := Lib.hid (lnmsg_any w (w.heap.size + 1) [] w2 hb env hln hl hl2 hnf hnb hf sn hsn (by simp))
  have HW2 := Lib.hid hw2
  have HB := Lib.hid hb
  have HT := Lib.hid (fun u (h : LnTo w.heap.size (w.heap.size + 1) (msgText x) w2 u) => lnwhole_any _ _ _ (msgText_some x) u h.n_ln (Nat.le_trans hb.size h.n_bel.size))
  clear env hl hl2 hnf hnb hf hsn hw2 hb hln
  go_enter Tryz.func8, Tryz.ntmps8
  go_wp2_with (first
    | (go_at_call 16; (with_reducible rw [← HW2.out]); refine HE.out.mono ?_; rintro e w3 ⟨rfl, h3⟩; have H3 := Lib.hid h3; clear h3)
    | (go_at_call 17; refine (HT.out _ H3.out).mono ?_; rintro e w4 ⟨rfl, h4⟩; have H4 := Lib.hid h4; clear h4))
  go_ret
  exact ⟨rfl, HB.out.trans (H3.out.n_bel.trans H4.out)⟩

/-- The lines and the schema's box, within Text. -/
structure TxSt (w : World) (b : Nat) (bs : List UInt8) (wr : World) (cs : Array Value) : Prop where
  t_ln : Ln w.heap.size b bs wr
  t_bel : Below w.heap.size w wr
  t_bx : wr.heap[w.heap.size]? = some (.cells cs 25 (0, 0))
  t_ne : w.heap.size ≠ b
theorem txst_after {w u v : World} {b : Nat} {x y : List UInt8} {cs : Array Value} (h : TxSt w b x u cs) (k : LnTo w.heap.size b y u v) : TxSt w b y v cs :=
  ⟨k.n_ln, h.t_bel.trans k.n_bel, kept_block k.n_keep h.t_bx h.t_ne (by decide), h.t_ne⟩

set_option maxHeartbeats 16000000 in
theorem sptext_any {S : Nat → Nat → Prop} (w : World) (env : FlEnv w) {A A2 : Option Addr} {n cap n2 cap2 : Nat} {s : Sc} (h : ScAt S w A n cap A2 n2 cap2 s) (hok : ScOk s) (hs : smallT s = true) :
    Calls Tryz.prog 12 #[.agg #[.slice A n cap, .slice A2 n2 cap2]] w fun e w' => e = .returned (.string (strOf (schText s))) ∧ Below w.heap.size w w' := by
  obtain ⟨m1, m2, m3, m4⟩ := scAt_max h
  have H := Lib.hid h
  have HFI := Lib.hid (sc_fits hs hok)
  have HZ := Lib.hid (small_sizes hs)
  have HENV := Lib.hid env
  have HCK := Lib.hid (fun u (hb : Below w.heap.size w u) => sch_check_ok.scheck S u A n cap A2 n2 cap2 s (env.1.rides hb) (scAt_bel h hb) hok hs)
  have HBX := Lib.hid (bx_start w #[.slice A n cap, .slice A2 n2 cap2] 25)
  have r0 := obj_cell HBX.out.b_blk 0
  have r1 := obj_cell HBX.out.b_blk 1
  by_cases hc : checkT s = 0
  case neg =>
    have HO : Hid (schText s = []) := Lib.hid (by unfold schText; rw [if_neg hc])
    obtain ⟨C, hC⟩ : ∃ C, C = checkT s := ⟨_, rfl⟩
    rw [← hC] at HCK hc
    have e1 : (C == 0) = false := beq_false_of_ne hc
    have e2 : (C != 0) = true := by rw [bne, e1]; rfl
    clear h hs hok hC env
    go_enter Tryz.func12, Tryz.ntmps12
    go_wp2_with (first | (go_at_call 21; refine (HCK.out _ HBX.out.b_bel).mono ?_; rintro e w2 ⟨rfl, hb⟩; replace HBX := Lib.hid (bx_step HBX.out hb); clear hb))
    go_ret
    exact ⟨by rw [HO.out]; rfl, HBX.out.b_bel⟩
  case pos =>
    have HO : Hid (schText s = s.enums.flatMap enumText ++ s.msgs.flatMap msgText) := Lib.hid (by unfold schText; rw [if_pos hc])
    have HSO := Lib.hid (sch_some hc)
    rw [hc] at HCK
    clear h hs hok hc env
    go_enter Tryz.func12, Tryz.ntmps12
    go_wp2_with (first | (go_at_call 21; refine (HCK.out _ HBX.out.b_bel).mono ?_; rintro e w2 ⟨rfl, hb⟩; replace HBX := Lib.hid (bx_step HBX.out hb); clear hb r0 r1; have r0 := fun o => cell?_alloc_old o (show w2.cell? ⟨w.heap.size, 0, none⟩ = some (.slice A n cap) from obj_cell HBX.out.b_blk 0)))
    have HB0 := Lib.hid (HBX.out.b_bel)
    have hlt0 := lt_of_block HBX.out.b_blk
    have HTX : Hid (TxSt w w2.heap.size [] (w2.alloc (.cells #[.pointer none, .slice none 0 0] 49)) #[.slice A n cap, .slice A2 n2 cap2]) := Lib.hid ⟨ln_first _ _ HB0.out.size, HB0.out.alloc HB0.out.size _, (Below.heap_alloc _ _ _ hlt0).trans HBX.out.b_blk, by omega⟩
    obtain ⟨b, hbd⟩ : ∃ b, b = w2.heap.size := ⟨_, rfl⟩
    rw [← hbd] at HTX
    rw [← hbd]
    clear r0 HBX hlt0 hbd
    go_loopg [14] n (fun gz y wr => ∃ i : Nat, y = .int .i64 (i : Int) ∧ i + gz = n ∧ TxSt w b ((s.enums.take i).flatMap enumText) wr #[.slice A n cap, .slice A2 n2 cap2])
    case atStart => exact ⟨0, rfl, by omega, HTX.out⟩
    case round =>
      obtain ⟨i, rfl, hi, hst⟩ := hrel
      obtain ⟨wk, hwk⟩ : ∃ wk, wk = wr := ⟨_, rfl⟩
      subst hwk
      obtain ⟨g0, hg0⟩ : ∃ g0, g0 = gk := ⟨_, rfl⟩
      subst hg0
      clear HTX
      have HTX := Lib.hid hst
      by_cases hlt : i < n
      · have ti : decide ((i : Int) < (n : Int)) = true := decide_eq_true (by omega)
        obtain ⟨x, hx⟩ : ∃ x, s.enums[i]? = some x := ⟨_, List.getElem?_eq_getElem (by have := H.out.s_ne; omega)⟩
        obtain ⟨ge, oe, A1, cap1, rfl, -, hcx, hl⟩ := en_at H.out.s_e hx
        have hfit := HFI.out.1 x (List.mem_of_getElem? hx)
        obtain ⟨nv, hnv⟩ : ∃ nv, nv = x.values.length := ⟨_, rfl⟩
        obtain ⟨sn, hsn⟩ : ∃ sn, sn = strOf x.name := ⟨_, rfl⟩
        rw [← hnv, ← hsn] at hcx
        obtain ⟨c0, c1⟩ := hcx _ hst.t_bel
        have hz := schEnums_len HFI.out.1 HZ.out.1 i
        obtain ⟨wb, hwb⟩ : ∃ wb, wb = wk.alloc (.cells #[.string sn, .slice A1 nv cap1] 36) := ⟨_, rfl⟩
        have hbb : Below wk.heap.size wk wb := by rw [hwb]; exact (Below.refl _ wk).alloc (Nat.le_refl _) _
        have hto := lnto_still hst.t_ln hst.t_bel.size hbb
        have HTB := Lib.hid (txst_after hst hto)
        have HE := Lib.hid (lnenum_any w b _ wb (txst_after hst hto).t_bel HENV.out.2 hto.n_ln hl hnv hfit sn hsn (by omega))
        rw [← flat_snoc _ _ _ _ hx] at HE
        have HWB := Lib.hid hwb
        clear hx hcx hl hfit hnv hsn hst hto hbb hwb hz
        go_wp2_with (first | (go_at_call 20; (with_reducible rw [← HWB.out]); refine HE.out.mono ?_; rintro e w3 ⟨rfl, h3⟩; have H3 := Lib.hid h3; clear h3))
        go_roundg (g0 - 1)
        case measure => omega
        case rel => exact ⟨i + 1, by go_num, by omega, txst_after HTB.out H3.out⟩
      · have ti : decide ((i : Int) < (n : Int)) = false := decide_eq_false (by omega)
        have r1 := obj_cell hst.t_bx 1
        have e1 : s.enums.take i = s.enums := List.take_of_length_le (by have := H.out.s_ne; omega)
        rw [e1] at HTX
        clear e1 hst
        go_wp2
        clear r1 ti
        go_loopg [24] n2 (fun gz y wr => ∃ j : Nat, y = .int .i64 (j : Int) ∧ j + gz = n2 ∧ TxSt w b (s.enums.flatMap enumText ++ (s.msgs.take j).flatMap msgText) wr #[.slice A n cap, .slice A2 n2 cap2])
        case atStart => exact ⟨0, rfl, by omega, by rw [show (s.msgs.take 0).flatMap msgText = [] from rfl, List.append_nil]; exact HTX.out⟩
        case round =>
          obtain ⟨j, rfl, hj, hst⟩ := hrel
          obtain ⟨wk, hwk⟩ : ∃ wk, wk = wr := ⟨_, rfl⟩
          subst hwk
          obtain ⟨g0, hg0⟩ : ∃ g0, g0 = gk := ⟨_, rfl⟩
          subst hg0
          clear HTX
          have HTX := Lib.hid hst
          by_cases hlt : j < n2
          · have ti : decide ((j : Int) < (n2 : Int)) = true := decide_eq_true (by omega)
            obtain ⟨x, hx⟩ : ∃ x, s.msgs[j]? = some x := ⟨_, List.getElem?_eq_getElem (by have := H.out.s_nm; omega)⟩
            obtain ⟨ge, oe, A1, cap1, A3, cap3, rfl, -, hcx, hl, hl2⟩ := ms_at H.out.s_m hx
            have hfit := HFI.out.2 x (List.mem_of_getElem? hx)
            obtain ⟨nf, hnf⟩ : ∃ nf, nf = x.fields.length := ⟨_, rfl⟩
            obtain ⟨nb, hnb⟩ : ∃ nb, nb = x.barred.length := ⟨_, rfl⟩
            obtain ⟨sn, hsn⟩ : ∃ sn, sn = strOf x.name := ⟨_, rfl⟩
            rw [← hnf, ← hnb, ← hsn] at hcx
            obtain ⟨c0, c1, c2⟩ := hcx _ hst.t_bel
            have hz : (s.enums.flatMap enumText ++ (s.msgs.take j).flatMap msgText).length ≤ 1000000000 := by
              have h1 := schEnums_len HFI.out.1 HZ.out.1 s.enums.length
              have h2 := schMsgs_len HFI.out.2 HZ.out.2.1 j
              rw [List.take_length] at h1
              rw [List.length_append]
              omega
            obtain ⟨wb, hwb⟩ : ∃ wb, wb = wk.alloc (.cells #[.string sn, .slice A1 nf cap1, .slice A3 nb cap3] 32) := ⟨_, rfl⟩
            have hbb : Below wk.heap.size wk wb := by rw [hwb]; exact (Below.refl _ wk).alloc (Nat.le_refl _) _
            have hto := lnto_still hst.t_ln hst.t_bel.size hbb
            have HTB := Lib.hid (txst_after hst hto)
            have HE := Lib.hid (lnmsg_any w b _ wb (txst_after hst hto).t_bel HENV.out hto.n_ln hl hl2 hnf hnb hfit sn hsn hz)
            rw [List.append_assoc, ← flat_snoc _ _ _ _ hx] at HE
            have HWB := Lib.hid hwb
            clear hx hcx hl hl2 hfit hnf hnb hsn hst hto hbb hwb hz
            go_wp2_with (first | (go_at_call 16; (with_reducible rw [← HWB.out]); refine HE.out.mono ?_; rintro e w3 ⟨rfl, h3⟩; have H3 := Lib.hid h3; clear h3))
            go_roundg (g0 - 1)
            case measure => omega
            case rel => exact ⟨j + 1, by go_num, by omega, txst_after HTB.out H3.out⟩
          · have ti : decide ((j : Int) < (n2 : Int)) = false := decide_eq_false (by omega)
            have e1 : s.msgs.take j = s.msgs := List.take_of_length_le (by have := H.out.s_nm; omega)
            rw [e1, ← HO.out] at hst
            have HT := Lib.hid (lnwhole_any w.heap.size b _ HSO.out wk hst.t_ln hst.t_bel.size)
            have HBE := Lib.hid hst.t_bel
            clear e1 hst HTX
            go_wp2_with (first | (go_at_call 17; refine HT.out.mono ?_; rintro e w4 ⟨rfl, h4⟩; have H4 := Lib.hid h4; clear h4))
            go_ret
            exact ⟨rfl, HBE.out.trans H4.out⟩

theorem sprint_ok : SprintOk FlEnv where
  sprides := fun w w' e hb => e.float hb
  sptext := fun S w A n cap A2 n2 cap2 s e h hok hs => sptext_any w e h hok hs
  spenum := fun S w A cap nv x e hl hnv hf => spenum_any w e hl hnv hf
  spmsg := fun S T w A1 c1 nf A3 c3 nb x e hl hl2 hnf hnb hf _ => spmsg_any w e hl hl2 hnf hnb hf
end Go.Proofs.YtjogamffdbedkaaGreatDoor
