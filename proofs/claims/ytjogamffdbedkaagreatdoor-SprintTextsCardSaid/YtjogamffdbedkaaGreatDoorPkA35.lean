/- Several texts in one: SpD. What each proves, and its conditions, stands at its own head. -/
import Derived.Test.YtjogamffdbedkaaGreatDoorPkA34
import Derived.Test.YtjogamffdbedkaaGreatDoorPkA32
/- The program's layer 17: the line of barred numbers, a message's lines. Conditions: those that each theorem names. -/
namespace Go.Proofs.YtjogamffdbedkaaGreatDoor
open Go.RowKit
set_option linter.unusedVariables false
set_option maxRecDepth 100000

def barS (l : List Int) (i : Nat) : List UInt8 := if i = 0 then [] else resHead ++ barT (l.take i)
def aheadS (i : Nat) : List UInt8 := if i = 0 then resHead else [44, 32]
theorem barS_next {l : List Int} {i : Nat} {v : Int} (h : l[i]? = some v) : barS l (i + 1) = barS l i ++ aheadS i ++ digT v := by
  have hl := (List.getElem?_eq_some_iff.mp h).1
  unfold barS aheadS
  rw [if_neg (by omega), split_take h, barT_snoc, List.length_take, Nat.min_eq_left (by omega)]
  by_cases h0 : i = 0
  · rw [if_pos h0, if_pos h0, if_neg (by omega), h0]
    simp [barT]
  · rw [if_neg h0, if_neg h0, if_pos (by omega)]
    simp only [List.append_assoc]
theorem aheadS_len (i : Nat) : (aheadS i).length ≤ 11 := by
  unfold aheadS resHead
  split <;> simp
theorem barS_len {l : List Int} (h : ∀ n ∈ l, Int64 n) (hl : l.length ≤ 200) (i : Nat) : (barS l i).length ≤ 4611 := by
  unfold barS resHead
  split
  · simp
  · have h1 := barT_len (l.take i) (fun n hn => h n (List.mem_of_mem_take hn))
    have h2 : (l.take i).length ≤ 200 := by rw [List.length_take]; omega
    simp only [List.length_append, List.length_cons, List.length_nil]
    omega

set_option maxHeartbeats 4000000 in
theorem lnbarred_any {T : Nat → Prop} (W : World) (b : Nat) (bs : List UInt8) (w : World) (hW : Below W.heap.size W w) (env : DecEnv W) (h : Ln W.heap.size b bs w) {A : Option Addr} {cap nb : Nat} {l : List Int} (hl : Lst 1 T inR W A cap l) (hnb : nb = l.length) (hpos : 0 < nb) (hln : l.length ≤ 200) (hnum : ∀ n ∈ l, Int64 n) (hbs : bs.length ≤ 2000000000) :
    Calls Tryz.prog 32 #[.pointer (some ⟨b, 0, none⟩), .slice A nb cap] w fun e w' => e = .returned (.tuple #[]) ∧ LnTo W.heap.size b (bs ++ resLine l) w w' := by
  have q1 := hl.l_le
  have q2 := hl.l_max
  unfold maxLen at q2
  rw [← hnb] at q1
  have HBS := Lib.hid hbs
  have HBW := Lib.hid hW.size
  have HW := Lib.hid hW
  have HENV := Lib.hid (fun u (hb : Below W.heap.size W u) => env.along hb)
  have HL := Lib.hid hl
  have HNB := Lib.hid hnb
  have HNU := Lib.hid hnum
  have HLN := Lib.hid hln
  have H0 := Lib.hid (lnto_refl h)
  clear env h hl hnb hbs hW hln hnum
  go_enter Tryz.func32, Tryz.ntmps32
  go_wp2
  go_loopg [4, 9] nb (fun gz y4 y wr => ∃ i : Nat, y = .int .i64 (i : Int) ∧ i + gz = nb ∧ y4 = .string (strOf (aheadS i)) ∧ LnTo W.heap.size b (bs ++ barS l i) w wr)
  case atStart => exact ⟨0, rfl, by omega, rfl, by rw [show barS l 0 = [] from rfl, List.append_nil]; exact H0.out⟩
  case round =>
    obtain ⟨i, rfl, hi, rfl, hto⟩ := hrel
    obtain ⟨wk, hwk⟩ : ∃ wk, wk = wr := ⟨_, rfl⟩
    subst hwk
    obtain ⟨g0, hg0⟩ : ∃ g0, g0 = gk := ⟨_, rfl⟩
    subst hg0
    have HTO := Lib.hid hto
    have hsz : W.heap.size ≤ wk.heap.size := by have := hto.n_bel.size; have := HBW.out; omega
    have hacc : (bs ++ barS l i).length ≤ 2000004611 := by
      have h1 := barS_len HNU.out HLN.out i
      have := HBS.out
      rw [List.length_append]
      omega
    by_cases hlt : i < nb
    · have ti : decide ((i : Int) < (nb : Int)) = true := decide_eq_true (by omega)
      obtain ⟨v, hv⟩ : ∃ v, l[i]? = some v := ⟨_, List.getElem?_eq_getElem (by have := HNB.out; omega)⟩
      obtain ⟨gv, ov, rfl, -, hcv⟩ := in_at HL.out hv
      have hv2 := HNU.out v (List.mem_of_getElem? hv)
      have d0 := hcv _ (HW.out.trans hto.n_bel)
      have hnx := barS_next hv
      have HNX := Lib.hid hnx
      have hdl := digT_len hv2
      have hal := aheadS_len i
      have HWK := Lib.hid (HW.out.trans hto.n_bel)
      have HD := Lib.hid (fun u (hb : Below W.heap.size W u) => spdigits_any v u (HENV.out u hb) hv2)
      obtain ⟨sa, hsa⟩ : ∃ sa, sa = strOf (aheadS i) := ⟨_, rfl⟩
      obtain ⟨sd, hsd⟩ : ∃ sd, sd = strOf (digT v) := ⟨_, rfl⟩
      rw [← hsd] at HD
      rw [← hsa]
      have HA := Lib.hid (lntext_any W.heap.size b _ _ sa hsa wk hto.n_ln (by omega) hsz)
      have HB := Lib.hid (fun u (hu : Ln W.heap.size b (bs ++ barS l i ++ aheadS i) u) (hz : W.heap.size ≤ u.heap.size) => lntext_any W.heap.size b _ _ sd hsd u hu (by rw [List.length_append]; omega) hz)
      clear hv hcv hv2 hnx hdl hal hsa hsd hto hacc
      go_wp2_with (first
        | (go_at_call 57; refine HA.out.mono ?_; rintro e w1 ⟨rfl, h1⟩; have H1 := Lib.hid h1; clear h1 HA))
      have HFR : Hid (Below w1.heap.size w1 w1.drew) := Lib.hid (drewN_under w1 1)
      have HW1 : Hid (Below W.heap.size W w1) := Lib.hid (HWK.out.trans H1.out.n_bel)
      go_region_held3 (fun _ => True)
        (trivial)
        (first
          | (go_at_call 38; refine (HD.out _ (HW1.out.trans (HFR.out.mono HW1.out.size))).mono ?_; rintro e w2 ⟨rfl, hb⟩; replace HFR := Lib.hid (HFR.out.trans (hb.mono HFR.out.size)); clear hb)
          | (go_at_call 57; refine (HB.out _ (ln_still H1.out.n_ln HFR.out) (Nat.le_trans HW1.out.size HFR.out.size)).mono ?_; rintro e w3 ⟨rfl, h3⟩; have H3 := Lib.hid h3; clear h3))
      go_wp2
      go_roundg (g0 - 1)
      case measure => omega
      case rel => exact ⟨i + 1, by go_num, by omega, rfl, by rw [HNX.out, ← List.append_assoc, ← List.append_assoc]; exact HTO.out.after (H1.out.after ((lnto_still H1.out.n_ln HW1.out.size HFR.out).after H3.out))⟩
    · have ti : decide ((i : Int) < (nb : Int)) = false := decide_eq_false (by omega)
      have e0 : nb = i := by omega
      have hres : bs ++ resLine l = bs ++ barS l i ++ [[59]].flatten ++ [10] := by
        unfold resLine barS
        rw [if_neg (by have := HNB.out; omega), if_neg (by omega), List.take_of_length_le (by have := HNB.out; omega)]
        simp only [List.flatten_cons, List.flatten_nil, List.append_assoc, List.append_nil, List.cons_append, List.nil_append]
      have HX := Lib.hid (lnrow_any W.heap.size b _ [[59]] wk hto.n_ln hsz 1 #[.string ⟨#[59]⟩] rfl rfl (by decide) (by
        simp only [List.flatten_cons, List.flatten_nil, List.length_append, List.length_cons, List.length_nil] at hacc ⊢
        omega) _ hres _ rfl)
      clear hto hacc hsz e0 hres
      go_wp2_with (first
        | (go_at_call 31; refine HX.out.mono ?_; rintro e w2 ⟨rfl, h2⟩; have H2 := Lib.hid h2; clear h2))
      go_end0
      exact ⟨rfl, HTO.out.after H2.out⟩

set_option maxHeartbeats 16000000 in
theorem lnmsg_any {S T : Nat → Prop} (W : World) (b : Nat) (bs : List UInt8) (w : World) (hW : Below W.heap.size W w) (env : FlEnv W) (h : Ln W.heap.size b bs w) {A1 A3 : Option Addr} {c1 c3 nf nb : Nat} {x : Ms} (hl : Lst 7 S fdR W A1 c1 x.fields) (hl2 : Lst 1 T inR W A3 c3 x.barred) (hnf : nf = x.fields.length) (hnb : nb = x.barred.length) (hf : MsFits x) (sn : ByteArray) (hsn : sn = strOf x.name) (hbs : bs.length ≤ 1000000000) :
    Calls Tryz.prog 16 #[.pointer (some ⟨b, 0, none⟩), .agg #[.string sn, .slice A1 nf c1, .slice A3 nb c3]] w fun e w' => e = .returned (.tuple #[]) ∧ LnTo W.heap.size b (bs ++ msgText x) w w' := by
  have q1 := hl.l_le
  have q2 := hl.l_max
  have q3 := hl2.l_le
  have q4 := hl2.l_max
  unfold maxLen at q2 q4
  rw [← hnf] at q1
  rw [← hnb] at q3
  have hBw : W.heap.size ≤ w.heap.size := hW.size
  have HBS := Lib.hid hbs
  have HBW := Lib.hid hBw
  have HW := Lib.hid hW
  have HENV := Lib.hid (fun u (hb : Below W.heap.size W u) => env.float hb)
  have HL := Lib.hid hl
  have HL2 := Lib.hid hl2
  have HNF := Lib.hid hnf
  have HNB := Lib.hid hnb
  have HF := Lib.hid hf
  have HX := Lib.hid (lnbx_start h hBw #[.string sn, .slice A1 nf c1, .slice A3 nb c3] 32)
  have H1 := Lib.hid (lnrow_any W.heap.size b bs [[109, 101, 115, 115, 97, 103, 101, 32], x.name, [32, 123]] (w.alloc (.cells #[.string sn, .slice A1 nf c1, .slice A3 nb c3] 32)) HX.out.x_to.n_ln (by have := HX.out.x_to.n_bel.size; omega) 3 #[.string ⟨#[109, 101, 115, 115, 97, 103, 101, 32]⟩, .string sn, .string ⟨#[32, 123]⟩] (by rw [hsn]; rfl) rfl (by decide) (by
      have := hf.mf_name
      simp only [List.flatten_cons, List.flatten_nil, List.length_append, List.length_cons, List.length_nil]
      omega) (bs ++ msgHead x) (by
      unfold msgHead
      simp only [List.flatten_cons, List.flatten_nil, List.append_assoc, List.append_nil, List.cons_append, List.nil_append]) (w.heap.size + 1) (by simp))
  have r0 := obj_cell HX.out.x_bx 0
  have r1 := obj_cell HX.out.x_bx 1
  have r2 := obj_cell HX.out.x_bx 2
  simp only [List.getElem?_toArray, List.getElem?_cons_zero, List.getElem?_cons_succ] at r0 r1 r2
  by_cases h0 : nb = 0
  · have hres : resLine x.barred = [] := by unfold resLine; rw [if_pos (by omega)]
    have HRES := Lib.hid hres
    have g1 : decide ((nb : Int) > 0) = false := decide_eq_false (by omega)
    have g2 : ¬ (0 : Int) < (nb : Int) := by omega
    have g3 : ¬ 0 < nb := by omega
    clear env h hl hl2 hnf hnb hf hsn hbs hW hBw h0 hres
    go_enter Tryz.func16, Tryz.ntmps16
    go_wp2_with (first
      | (go_at_call 31; refine H1.out.mono ?_; rintro e w1 ⟨rfl, h1⟩; replace HX := Lib.hid (lnbx_after HX.out h1 (by decide)); clear h1 r0 r1 r2; have r0 := obj_cell HX.out.x_bx 0; have r1 := obj_cell HX.out.x_bx 1; have r2 := obj_cell HX.out.x_bx 2; simp only [List.getElem?_toArray, List.getElem?_cons_zero, List.getElem?_cons_succ] at r0 r1 r2))
    clear r0 r1 r2
    rw [← List.append_nil (bs ++ msgHead x), ← HRES.out] at HX
    go_loopg [22] nf (fun gz y wr => ∃ i : Nat, y = .int .i64 (i : Int) ∧ i + gz = nf ∧ LnTo W.heap.size b (bs ++ msgHead x ++ resLine x.barred ++ (x.fields.take i).flatMap fieldLine) w wr)
    case atStart => exact ⟨0, rfl, by omega, by rw [show (x.fields.take 0).flatMap fieldLine = [] from rfl, List.append_nil]; exact HX.out.x_to⟩
    case round =>
      obtain ⟨i, rfl, hi, hto⟩ := hrel
      obtain ⟨wk, hwk⟩ : ∃ wk, wk = wr := ⟨_, rfl⟩
      subst hwk
      obtain ⟨g0, hg0⟩ : ∃ g0, g0 = gk := ⟨_, rfl⟩
      subst hg0
      have HTO := Lib.hid hto
      clear HX
      have hsz : W.heap.size ≤ wk.heap.size := by have := hto.n_bel.size; have := HBW.out; omega
      have HSZ := Lib.hid hsz
      have hacc : (bs ++ msgHead x ++ resLine x.barred ++ (x.fields.take i).flatMap fieldLine).length ≤ 1000225000 := by
        have h1 := msgBody_len HF.out i
        have := HBS.out
        rw [List.append_assoc, List.append_assoc, List.length_append, ← List.append_assoc]
        omega
      by_cases hlt : i < nf
      · have ti : decide ((i : Int) < (nf : Int)) = true := decide_eq_true (by omega)
        obtain ⟨f, hf⟩ : ∃ f, x.fields[i]? = some f := ⟨_, List.getElem?_eq_getElem (by have := HNF.out; omega)⟩
        obtain ⟨gf, of, rfl, -, hcf⟩ := fd_at HL.out hf
        have hone := HF.out.mf_each f (List.mem_of_getElem? hf)
        have hnx : bs ++ msgHead x ++ resLine x.barred ++ (x.fields.take (i + 1)).flatMap fieldLine = bs ++ msgHead x ++ resLine x.barred ++ (x.fields.take i).flatMap fieldLine ++ [[32, 32], oneofT f, ftextT f].flatten ++ [10] := by
          rw [flat_snoc _ _ _ _ hf]
          unfold fieldLine
          simp only [List.flatten_cons, List.flatten_nil, List.append_assoc, List.append_nil, List.cons_append, List.nil_append]
        have hol := oneofT_len hone
        have htl := ftextT_len f
        obtain ⟨acc, haccd⟩ : ∃ acc, acc = bs ++ msgHead x ++ resLine x.barred ++ (x.fields.take i).flatMap fieldLine := ⟨_, rfl⟩
        rw [← haccd] at hacc hto HTO hnx
        have HO := Lib.hid (fun u => sponeof_any f hone u)
        have HT := Lib.hid (fun u (hb : Below W.heap.size W u) => fptext_any f u (HENV.out u hb))
        unfold fdV at HO HT
        obtain ⟨so, hso⟩ : ∃ z, z = strOf (oneofT f) := ⟨_, rfl⟩
        obtain ⟨st, hst⟩ : ∃ z, z = strOf (ftextT f) := ⟨_, rfl⟩
        obtain ⟨sn1, hsn1⟩ : ∃ z, z = strOf f.name := ⟨_, rfl⟩
        obtain ⟨sr1, hsr1⟩ : ∃ z, z = strOf f.ref := ⟨_, rfl⟩
        obtain ⟨so1, hso1⟩ : ∃ z, z = strOf f.one := ⟨_, rfl⟩
        rw [← hsn1, ← hsr1, ← hso1] at hcf
        rw [← hso, ← hsn1, ← hsr1, ← hso1] at HO
        rw [← hst, ← hsn1, ← hsr1, ← hso1] at HT
        obtain ⟨fnum, hfnum⟩ : ∃ z, z = f.num := ⟨_, rfl⟩
        obtain ⟨fty, hfty⟩ : ∃ z, z = f.ty := ⟨_, rfl⟩
        obtain ⟨frep, hfrep⟩ : ∃ z, z = f.rep := ⟨_, rfl⟩
        obtain ⟨floose, hfloose⟩ : ∃ z, z = f.loose := ⟨_, rfl⟩
        rw [← hfnum, ← hfty, ← hfrep, ← hfloose] at hcf HO HT
        obtain ⟨d0, d1, d2, d3, d4, d5, d6⟩ := hcf _ (HW.out.trans hto.n_bel)
        obtain ⟨wb, hwb⟩ : ∃ wb, wb = wk.alloc (.cells #[.string sn1, .int .i64 fnum, .int .i64 fty, .string sr1, .bool frep, .bool floose, .string so1] 43) := ⟨_, rfl⟩
        have hbx : LnBx W.heap.size b acc wk wb #[.string sn1, .int .i64 fnum, .int .i64 fty, .string sr1, .bool frep, .bool floose, .string so1] 43 := by rw [hwb]; exact lnbx_start hto.n_ln hsz _ _
        have HBX := Lib.hid hbx
        have HWB : Hid (Below W.heap.size W wb) := Lib.hid (HW.out.trans (hto.n_bel.trans hbx.x_to.n_bel))
        have HLN := Lib.hid (fun u (hb : Below wb.heap.size wb u) => lnrow_any W.heap.size b acc [[32, 32], oneofT f, ftextT f] u (ln_still hbx.x_to.n_ln hb) (by have := hbx.x_to.n_bel.size; have := hb.size; omega) 3 #[.string ⟨#[32, 32]⟩, .string so, .string st] (by rw [hso, hst]; rfl) rfl (by decide) (by
            simp only [List.flatten_cons, List.flatten_nil, List.length_append, List.length_cons, List.length_nil]
            omega) _ hnx _ rfl)
        have hcells : ∀ u : World, u.heap[wk.heap.size]? = some (.cells #[.string sn1, .int .i64 fnum, .int .i64 fty, .string sr1, .bool frep, .bool floose, .string so1] 43 (0, 0)) → u.cell? ⟨wk.heap.size, 0, none⟩ = some (.string sn1) ∧ u.cell? ⟨wk.heap.size, 1, none⟩ = some (.int .i64 fnum) ∧ u.cell? ⟨wk.heap.size, 2, none⟩ = some (.int .i64 fty) ∧ u.cell? ⟨wk.heap.size, 3, none⟩ = some (.string sr1) ∧ u.cell? ⟨wk.heap.size, 4, none⟩ = some (.bool frep) ∧ u.cell? ⟨wk.heap.size, 5, none⟩ = some (.bool floose) ∧ u.cell? ⟨wk.heap.size, 6, none⟩ = some (.string so1) := fun u h => ⟨obj_cell h 0, obj_cell h 1, obj_cell h 2, obj_cell h 3, obj_cell h 4, obj_cell h 5, obj_cell h 6⟩
        have HK := Lib.hid (fun (y : List UInt8) (u w' : World) (hb : Below wb.heap.size wb u) (hk : LnTo W.heap.size b y u w') => hcells _ (lnbx_after (lnbx_still hbx hsz hb (by decide)) hk (by decide)).x_bx)
        have HK0 := Lib.hid (fun (u : World) (hb : Below wb.heap.size wb u) => hcells _ (lnbx_still hbx hsz hb (by decide)).x_bx)
        have HFR : Hid (Below wb.heap.size wb wb.drew) := Lib.hid (drewN_under wb 1)
        have HWBE := Lib.hid hwb
        clear hf hcf hone hso hst hsn1 hsr1 hso1 hfnum hfty hfrep hfloose hnx haccd hto hacc hbx hwb hol htl hsz hcells
        go_wp2
        rw [← HWBE.out]
        go_region_held3 (fun w' => w'.cell? ⟨wk.heap.size, 0, none⟩ = some (.string sn1) ∧ w'.cell? ⟨wk.heap.size, 1, none⟩ = some (.int .i64 fnum) ∧ w'.cell? ⟨wk.heap.size, 2, none⟩ = some (.int .i64 fty) ∧ w'.cell? ⟨wk.heap.size, 3, none⟩ = some (.string sr1) ∧ w'.cell? ⟨wk.heap.size, 4, none⟩ = some (.bool frep) ∧ w'.cell? ⟨wk.heap.size, 5, none⟩ = some (.bool floose) ∧ w'.cell? ⟨wk.heap.size, 6, none⟩ = some (.string so1))
          (first | exact HK0.out _ HFR.out | exact HK0.out _ (HFR.out.alloc HFR.out.size _) | exact HK.out _ _ _ HFR.out H2.out)
          (first
            | (go_at_call 33; refine (HO.out _).mono ?_; rintro e w1 ⟨rfl, hb⟩; replace HFR := Lib.hid (HFR.out.trans (hb.mono HFR.out.size)); clear hb)
            | (go_at_call 34; refine (HT.out _ (HWB.out.trans (HFR.out.mono HWB.out.size))).mono ?_; rintro e w3 ⟨rfl, hb⟩; replace HFR := Lib.hid (HFR.out.trans (hb.mono HFR.out.size)); clear hb)
            | (go_at_call 31; refine (HLN.out _ HFR.out).mono ?_; rintro e w2 ⟨rfl, h2⟩; have H2 := Lib.hid h2; clear h2))
        go_wp2
        go_roundg (g0 - 1)
        case measure => omega
        case rel => exact ⟨i + 1, by go_num, by omega, HTO.out.after (HBX.out.x_to.after ((lnto_still HBX.out.x_to.n_ln (by have := HBX.out.x_to.n_bel.size; have := HSZ.out; omega) HFR.out).after H2.out))⟩
      · have ti : decide ((i : Int) < (nf : Int)) = false := decide_eq_false (by omega)
        have e1 : x.fields.take i = x.fields := List.take_of_length_le (by have := HNF.out; omega)
        rw [e1] at hto hacc
        have HTE := Lib.hid hto
        have H1 := Lib.hid (lnrow_any W.heap.size b _ [[125]] wk hto.n_ln hsz 1 #[.string ⟨#[125]⟩] rfl rfl (by decide) (by
          simp only [List.flatten_cons, List.flatten_nil, List.length_append, List.length_cons, List.length_nil] at hacc ⊢
          omega) (bs ++ msgText x) (by
          unfold msgText
          simp only [List.flatten_cons, List.flatten_nil, List.append_assoc, List.append_nil, List.cons_append, List.nil_append]) _ rfl)
        clear hto hacc e1 HTO hsz
        go_wp2_with (first
          | (go_at_call 31; refine H1.out.mono ?_; rintro e w2 ⟨rfl, h2⟩; have H2 := Lib.hid h2; clear h2))
        go_end0
        exact ⟨rfl, HTE.out.after H2.out⟩
  · have g1 : decide ((nb : Int) > 0) = true := decide_eq_true (by omega)
    have g2 : (0 : Int) < (nb : Int) := by omega
    have g3 : 0 < nb := by omega
    have HH : Hid ((bs ++ msgHead x).length ≤ 2000000000) := Lib.hid (by rw [List.length_append]; have := msgHead_len hf; omega)
    have HBAR := Lib.hid (fun u (hu : Below W.heap.size W u) (hx : Ln W.heap.size b (bs ++ msgHead x) u) => lnbarred_any W b _ u hu env.2 hx hl2 hnb (by omega) hf.mf_barred hf.mf_nums HH.out)
    clear env h hl hl2 hnf hnb hf hsn hbs hW hBw h0
    go_enter Tryz.func16, Tryz.ntmps16
    go_wp2_with (first
      | (go_at_call 31; refine H1.out.mono ?_; rintro e w1 ⟨rfl, h1⟩; replace HX := Lib.hid (lnbx_after HX.out h1 (by decide)); clear h1 r0 r1 r2; have r0 := obj_cell HX.out.x_bx 0; have r1 := obj_cell HX.out.x_bx 1; have r2 := obj_cell HX.out.x_bx 2; simp only [List.getElem?_toArray, List.getElem?_cons_zero, List.getElem?_cons_succ] at r0 r1 r2)
      | (go_at_call 32; refine (HBAR.out _ (HW.out.trans HX.out.x_to.n_bel) HX.out.x_to.n_ln).mono ?_; rintro e w2 ⟨rfl, h1⟩; replace HX := Lib.hid (lnbx_after HX.out h1 (by decide)); clear h1 r0 r1 r2; have r0 := obj_cell HX.out.x_bx 0; have r1 := obj_cell HX.out.x_bx 1; have r2 := obj_cell HX.out.x_bx 2; simp only [List.getElem?_toArray, List.getElem?_cons_zero, List.getElem?_cons_succ] at r0 r1 r2))
    clear r0 r1 r2
    go_loopg [22] nf (fun gz y wr => ∃ i : Nat, y = .int .i64 (i : Int) ∧ i + gz = nf ∧ LnTo W.heap.size b (bs ++ msgHead x ++ resLine x.barred ++ (x.fields.take i).flatMap fieldLine) w wr)
    case atStart => exact ⟨0, rfl, by omega, by rw [show (x.fields.take 0).flatMap fieldLine = [] from rfl, List.append_nil]; exact HX.out.x_to⟩
    case round =>
      obtain ⟨i, rfl, hi, hto⟩ := hrel
      obtain ⟨wk, hwk⟩ : ∃ wk, wk = wr := ⟨_, rfl⟩
      subst hwk
      obtain ⟨g0, hg0⟩ : ∃ g0, g0 = gk := ⟨_, rfl⟩
      subst hg0
      have HTO := Lib.hid hto
      clear HX
      have hsz : W.heap.size ≤ wk.heap.size := by have := hto.n_bel.size; have := HBW.out; omega
      have HSZ := Lib.hid hsz
      have hacc : (bs ++ msgHead x ++ resLine x.barred ++ (x.fields.take i).flatMap fieldLine).length ≤ 1000225000 := by
        have h1 := msgBody_len HF.out i
        have := HBS.out
        rw [List.append_assoc, List.append_assoc, List.length_append, ← List.append_assoc]
        omega
      by_cases hlt : i < nf
      · have ti : decide ((i : Int) < (nf : Int)) = true := decide_eq_true (by omega)
        obtain ⟨f, hf⟩ : ∃ f, x.fields[i]? = some f := ⟨_, List.getElem?_eq_getElem (by have := HNF.out; omega)⟩
        obtain ⟨gf, of, rfl, -, hcf⟩ := fd_at HL.out hf
        have hone := HF.out.mf_each f (List.mem_of_getElem? hf)
        have hnx : bs ++ msgHead x ++ resLine x.barred ++ (x.fields.take (i + 1)).flatMap fieldLine = bs ++ msgHead x ++ resLine x.barred ++ (x.fields.take i).flatMap fieldLine ++ [[32, 32], oneofT f, ftextT f].flatten ++ [10] := by
          rw [flat_snoc _ _ _ _ hf]
          unfold fieldLine
          simp only [List.flatten_cons, List.flatten_nil, List.append_assoc, List.append_nil, List.cons_append, List.nil_append]
        have hol := oneofT_len hone
        have htl := ftextT_len f
        obtain ⟨acc, haccd⟩ : ∃ acc, acc = bs ++ msgHead x ++ resLine x.barred ++ (x.fields.take i).flatMap fieldLine := ⟨_, rfl⟩
        rw [← haccd] at hacc hto HTO hnx
        have HO := Lib.hid (fun u => sponeof_any f hone u)
        have HT := Lib.hid (fun u (hb : Below W.heap.size W u) => fptext_any f u (HENV.out u hb))
        unfold fdV at HO HT
        obtain ⟨so, hso⟩ : ∃ z, z = strOf (oneofT f) := ⟨_, rfl⟩
        obtain ⟨st, hst⟩ : ∃ z, z = strOf (ftextT f) := ⟨_, rfl⟩
        obtain ⟨sn1, hsn1⟩ : ∃ z, z = strOf f.name := ⟨_, rfl⟩
        obtain ⟨sr1, hsr1⟩ : ∃ z, z = strOf f.ref := ⟨_, rfl⟩
        obtain ⟨so1, hso1⟩ : ∃ z, z = strOf f.one := ⟨_, rfl⟩
        rw [← hsn1, ← hsr1, ← hso1] at hcf
        rw [← hso, ← hsn1, ← hsr1, ← hso1] at HO
        rw [← hst, ← hsn1, ← hsr1, ← hso1] at HT
        obtain ⟨fnum, hfnum⟩ : ∃ z, z = f.num := ⟨_, rfl⟩
        obtain ⟨fty, hfty⟩ : ∃ z, z = f.ty := ⟨_, rfl⟩
        obtain ⟨frep, hfrep⟩ : ∃ z, z = f.rep := ⟨_, rfl⟩
        obtain ⟨floose, hfloose⟩ : ∃ z, z = f.loose := ⟨_, rfl⟩
        rw [← hfnum, ← hfty, ← hfrep, ← hfloose] at hcf HO HT
        obtain ⟨d0, d1, d2, d3, d4, d5, d6⟩ := hcf _ (HW.out.trans hto.n_bel)
        obtain ⟨wb, hwb⟩ : ∃ wb, wb = wk.alloc (.cells #[.string sn1, .int .i64 fnum, .int .i64 fty, .string sr1, .bool frep, .bool floose, .string so1] 43) := ⟨_, rfl⟩
        have hbx : LnBx W.heap.size b acc wk wb #[.string sn1, .int .i64 fnum, .int .i64 fty, .string sr1, .bool frep, .bool floose, .string so1] 43 := by rw [hwb]; exact lnbx_start hto.n_ln hsz _ _
        have HBX := Lib.hid hbx
        have HWB : Hid (Below W.heap.size W wb) := Lib.hid (HW.out.trans (hto.n_bel.trans hbx.x_to.n_bel))
        have HLN := Lib.hid (fun u (hb : Below wb.heap.size wb u) => lnrow_any W.heap.size b acc [[32, 32], oneofT f, ftextT f] u (ln_still hbx.x_to.n_ln hb) (by have := hbx.x_to.n_bel.size; have := hb.size; omega) 3 #[.string ⟨#[32, 32]⟩, .string so, .string st] (by rw [hso, hst]; rfl) rfl (by decide) (by
            simp only [List.flatten_cons, List.flatten_nil, List.length_append, List.length_cons, List.length_nil]
            omega) _ hnx _ rfl)
        have hcells : ∀ u : World, u.heap[wk.heap.size]? = some (.cells #[.string sn1, .int .i64 fnum, .int .i64 fty, .string sr1, .bool frep, .bool floose, .string so1] 43 (0, 0)) → u.cell? ⟨wk.heap.size, 0, none⟩ = some (.string sn1) ∧ u.cell? ⟨wk.heap.size, 1, none⟩ = some (.int .i64 fnum) ∧ u.cell? ⟨wk.heap.size, 2, none⟩ = some (.int .i64 fty) ∧ u.cell? ⟨wk.heap.size, 3, none⟩ = some (.string sr1) ∧ u.cell? ⟨wk.heap.size, 4, none⟩ = some (.bool frep) ∧ u.cell? ⟨wk.heap.size, 5, none⟩ = some (.bool floose) ∧ u.cell? ⟨wk.heap.size, 6, none⟩ = some (.string so1) := fun u h => ⟨obj_cell h 0, obj_cell h 1, obj_cell h 2, obj_cell h 3, obj_cell h 4, obj_cell h 5, obj_cell h 6⟩
        have HK := Lib.hid (fun (y : List UInt8) (u w' : World) (hb : Below wb.heap.size wb u) (hk : LnTo W.heap.size b y u w') => hcells _ (lnbx_after (lnbx_still hbx hsz hb (by decide)) hk (by decide)).x_bx)
        have HK0 := Lib.hid (fun (u : World) (hb : Below wb.heap.size wb u) => hcells _ (lnbx_still hbx hsz hb (by decide)).x_bx)
        have HFR : Hid (Below wb.heap.size wb wb.drew) := Lib.hid (drewN_under wb 1)
        have HWBE := Lib.hid hwb
        clear hf hcf hone hso hst hsn1 hsr1 hso1 hfnum hfty hfrep hfloose hnx haccd hto hacc hbx hwb hol htl hsz hcells
        go_wp2
        rw [← HWBE.out]
        go_region_held3 (fun w' => w'.cell? ⟨wk.heap.size, 0, none⟩ = some (.string sn1) ∧ w'.cell? ⟨wk.heap.size, 1, none⟩ = some (.int .i64 fnum) ∧ w'.cell? ⟨wk.heap.size, 2, none⟩ = some (.int .i64 fty) ∧ w'.cell? ⟨wk.heap.size, 3, none⟩ = some (.string sr1) ∧ w'.cell? ⟨wk.heap.size, 4, none⟩ = some (.bool frep) ∧ w'.cell? ⟨wk.heap.size, 5, none⟩ = some (.bool floose) ∧ w'.cell? ⟨wk.heap.size, 6, none⟩ = some (.string so1))
          (first | exact HK0.out _ HFR.out | exact HK0.out _ (HFR.out.alloc HFR.out.size _) | exact HK.out _ _ _ HFR.out H2.out)
          (first
            | (go_at_call 33; refine (HO.out _).mono ?_; rintro e w1 ⟨rfl, hb⟩; replace HFR := Lib.hid (HFR.out.trans (hb.mono HFR.out.size)); clear hb)
            | (go_at_call 34; refine (HT.out _ (HWB.out.trans (HFR.out.mono HWB.out.size))).mono ?_; rintro e w3 ⟨rfl, hb⟩; replace HFR := Lib.hid (HFR.out.trans (hb.mono HFR.out.size)); clear hb)
            | (go_at_call 31; refine (HLN.out _ HFR.out).mono ?_; rintro e w2 ⟨rfl, h2⟩; have H2 := Lib.hid h2; clear h2))
        go_wp2
        go_roundg (g0 - 1)
        case measure => omega
        case rel => exact ⟨i + 1, by go_num, by omega, HTO.out.after (HBX.out.x_to.after ((lnto_still HBX.out.x_to.n_ln (by have := HBX.out.x_to.n_bel.size; have := HSZ.out; omega) HFR.out).after H2.out))⟩
      · have ti : decide ((i : Int) < (nf : Int)) = false := decide_eq_false (by omega)
        have e1 : x.fields.take i = x.fields := List.take_of_length_le (by have := HNF.out; omega)
        rw [e1] at hto hacc
        have HTE := Lib.hid hto
        have H1 := Lib.hid (lnrow_any W.heap.size b _ [[125]] wk hto.n_ln hsz 1 #[.string ⟨#[125]⟩] rfl rfl (by decide) (by
          simp only [List.flatten_cons, List.flatten_nil, List.length_append, List.length_cons, List.length_nil] at hacc ⊢
          omega) (bs ++ msgText x) (by
          unfold msgText
          simp only [List.flatten_cons, List.flatten_nil, List.append_assoc, List.append_nil, List.cons_append, List.nil_append]) _ rfl)
        clear hto hacc e1 HTO hsz
        go_wp2_with (first
          | (go_at_call 31; refine H1.out.mono ?_; rintro e w2 ⟨rfl, h2⟩; have H2 := Lib.hid h2; clear h2))
        go_end0
        exact ⟨rfl, HTE.out.after H2.out⟩
end Go.Proofs.YtjogamffdbedkaaGreatDoor
