/- Several texts in one: SpB, SpC. What each proves, and its conditions, stands at its own head. -/
import Derived.Test.YtjogamffdbedkaaGreatDoorPkA33
import Derived.Test.YtjogamffdbedkaaGreatDoorPkA31
import Derived.Test.YtjogamffdbedkaaGreatDoorPkA27
import Derived.Test.YtjogamffdbedkaaGreatDoorPkA22
import Derived.Test.YtjogamffdbedkaaGreatDoorPkA30
/- The program's layer 17: a byte behind the lines, what the lines hold, one line, a number's digits. Conditions: those that each theorem names. -/
namespace Go.Proofs.YtjogamffdbedkaaGreatDoor
open Go.RowKit
set_option linter.unusedVariables false
set_option maxRecDepth 100000

set_option maxHeartbeats 2000000 in
theorem lnbyte_any (B b : Nat) (bs : List UInt8) (w : World) (h : Ln B b bs w) (hl : bs.length + 1 ≤ 140737488355328) (hBw : B ≤ w.heap.size) :
    Calls Tryz.prog 58 #[.pointer (some ⟨b, 0, none⟩), .int .u8 10] w fun e w' => e = .returned .nilIface ∧ LnTo B b (bs ++ [10]) w w' := by
  have HL := Lib.hid (show (cellsOf bs).length + 1 ≤ 140737488355328 by rw [cellsOf_length]; exact hl)
  have HC := Lib.hid (lncheck_any B b bs w h)
  have HT := Lib.hid (show cellsOf bs ++ [.int .u8 10] = cellsOf (bs ++ [10]) by rw [cellsOf_append]; rfl)
  clear hl h
  obtain ⟨cs, hcs⟩ : ∃ cs, cs = cellsOf bs := ⟨_, rfl⟩
  rw [← hcs] at HL HC HT
  clear hcs
  obtain ⟨i0, hi, hz0, hz1, hz2⟩ := info_parts sbw_extra.infoByte
  go_enter Tryz.func58, Tryz.ntmps58
  go_wp2_with (go_at_call 95; refine HC.out.mono ?_)
  rintro e w1 ⟨rfl, h1, hb1, hk1⟩
  have hw1 := hb1.size
  have hlt := h1.lt
  obtain ⟨hB, v, hbk, hown, hne⟩ := h1
  have r0 := Lib.cell_of_heap hbk 0
  have r1 := Lib.cell_of_heap hbk 1
  simp only [List.getElem?_toArray, List.getElem?_cons_zero, List.getElem?_cons_succ] at r0 r1
  go_wp2_with (at_builtin; refine wpList_append_ownF _ rfl _ _ 45 rfl B 5 i0 (.int .u8 0) 1 1 Tryz.underlying45 hi hz0 hz1 hz2 rfl (by decide) _ _ _ rfl (hown.alloc _) ⟨w1.heap.size, 0, none⟩ 1 1 [.int .u8 10] rfl rfl ?c1 ?c2 ?c3 ?c4 ?c5 ?_)
  case c1 =>
    intro j u hj
    match j, hj with
    | 0, hj => simp at hj; subst hj; simp [Addr.add]
  case c2 => intro u hu; simp at hu; subst hu; rfl
  case c3 => have := HL.out; unfold maxLen; omega
  case c4 => have := HL.out; omega
  case c5 => simp; omega
  intro v2 w2 hown2 hgrow _
  have hk2 := (hk1.alloc (.cells #[.int .u8 10] 5)).grown hgrow (Lib.ownsRowF_kind (hown.alloc _))
  have hb2 : w2.heap[b]? = some (.cells #[.pointer (some ⟨b, 0, none⟩), v] 49 (0, 0)) := (hgrow.block b (by simp; omega) (fun e => hne e.symm)).trans ((Lib.alloc_old w1 _ b hlt).trans hbk)
  have r2 := Lib.cell_of_heap hb2 1
  have f2 := Lib.frozen_of_heap hb2 1
  simp only [List.getElem?_toArray, List.getElem?_cons_zero, List.getElem?_cons_succ] at r2
  have HA := Lib.hid (Lib.BuilderAtF.put (T := 49) (e := 5) (bs' := cs ++ [.int .u8 10]) hB hb2 (by simpa using hown2) lines_ne)
  have HF := Lib.hid (((hb1.alloc (by omega) (.cells #[.int .u8 10] 5)).grown hgrow (by simp; omega) (fun k hk => (hown.lt k hk).1)).setCell (p := ⟨b, 1, none⟩) hB v2)
  have HK := Lib.hid (hk2.setCell ⟨b, 1, none⟩ rfl v2)
  rw [HT.out] at HA
  have hform : ∃ ao n c, v2 = .slice ao n c := by
    rcases hown2.2 with ⟨hv, _⟩ | ⟨g, c, _, _, hv, _⟩
    · exact ⟨_, _, _, hv⟩
    · exact ⟨_, _, _, hv⟩
  obtain ⟨ao, n2, c2, rfl⟩ := hform
  clear hk2 hk1 hb1 hgrow hown hown2 hne hb2 hbk
  go_wp2
  go_ret
  exact ⟨rfl, .inr HA.out, HF.out, HK.out⟩

set_option maxHeartbeats 2000000 in
/-- What the lines hold, as a text: some bytes, here. -/
theorem lnwhole_any (B b : Nat) (bs : List UInt8) (h0 : bs ≠ []) (w : World) (h : Ln B b bs w) (hBw : B ≤ w.heap.size) :
    Calls Tryz.prog 17 #[.pointer (some ⟨b, 0, none⟩)] w fun e w' => e = .returned (.string (strOf bs)) ∧ Below B w w' := by
  obtain ⟨p, -, hB, v, hbk, hown, hne⟩ := ln_at h
  have hl0 : bs.length ≠ 0 := by simpa using h0
  rw [cellsOf_length] at hown
  obtain ⟨g, cap, cur, fz, rfl, hbg, hg, hfz, hnc, hcm, hcs, htake⟩ : ∃ g cap cur fz, v = .slice (some ⟨g, 0, none⟩) bs.length cap ∧ B ≤ g ∧ w.heap[g]? = some (.cells cur 5 fz) ∧ fz.2 ≤ bs.length * 1 ∧ bs.length ≤ cap ∧ cap ≤ maxLen ∧ cur.size = cap * 1 ∧ cur.toList.take (bs.length * 1) = cellsOf bs := by
    rcases hown.2 with ⟨_, hz⟩ | ⟨g, cap, cur, fz, hv, r⟩
    · exact absurd hz hl0
    · exact ⟨g, cap, cur, fz, hv, r⟩
  have r1 : w.drew.cell? ⟨b, 1, none⟩ = some (.slice (some ⟨g, 0, none⟩) bs.length cap) := by
    rw [Lib.cell_of_heap (show w.drew.heap[b]? = _ from hbk)]
    rfl
  have hptr : Tryz.prog.underlying 61 = some (.pointer 5) := Tryz.underlying61
  have hsd : (Builtin.unsafeSliceData_ #[45] 61 #[.slice (some ⟨g, 0, none⟩) bs.length cap]).run Tryz.prog w.drew = .ok (.pointer (some ⟨g, 0, none⟩)) w.drew :=
    Lib.run_unsafeSliceData_row _ _ _ _ _ _ (by omega)
  have hus : (Builtin.unsafeString_ #[61, 3] 9 #[.pointer (some ⟨g, 0, none⟩), .int .i64 bs.length]).run Tryz.prog w.drew = .ok (.string (strOf bs)) (w.drew.freeze ⟨g, 0, none⟩ bs.length) :=
    Lib.run_unsafeString_row w.drew 61 3 9 5 hptr sbw_extra.cellsByte g cur.size (by simp [World.shape?, show w.drew.heap[g]? = some (.cells cur 5 fz) from hg]) bs h0 (by omega) (by unfold maxLen at hcm; omega)
      (fun j x hx => hown.cells (g := g) rfl j (.int .u8 x.toNat) (by simp [cellsOf, hx]))
  have HB := Lib.hid (Lib.below_freeze (Below.drew (Below.refl B w)) (p := ⟨g, 0, none⟩) hbg bs.length)
  clear hbk hown hne hg hfz hcs htake h h0
  go_enter Tryz.func17, Tryz.ntmps17
  go_wp2
  go_region
  all_goals (go_wp2; go_ret; exact ⟨rfl, HB.out⟩)

/-- A row of texts that a call has laid. -/
def rowOf (ts : List (List UInt8)) : List Value := ts.map fun t => Value.string (strOf t)
theorem row_at {w : World} {g : Nat} {ts : List (List UInt8)} {c : Array Value} {fz : Nat × Nat} (h : w.heap[g]? = some (.cells c 9 fz)) (hc : c = (rowOf ts).toArray) {i : Nat} {t : List UInt8} (ht : ts[i]? = some t) : w.cell? ⟨g, i, none⟩ = some (.string (strOf t)) := by
  rw [Lib.cell_of_heap h, hc]
  simp [rowOf, ht]

set_option maxHeartbeats 2000000 in
theorem lnline_any (B b : Nat) (bs : List UInt8) (ts : List (List UInt8)) (w : World) (h : Ln B b bs w) (g n : Nat) (c : Array Value) (hg : w.heap[g]? = some (.cells c 9 (0, 0))) (hc : c = (rowOf ts).toArray) (hgb : g ≠ b) (hn : n = ts.length) (hm : n < 1000000) (hl : bs.length + ts.flatten.length + 1 ≤ 140737488355328) (hBw : B ≤ w.heap.size) :
    Calls Tryz.prog 31 #[.pointer (some ⟨b, 0, none⟩), .slice (some ⟨g, 0, none⟩) n n] w fun e w' => e = .returned (.tuple #[]) ∧ LnTo B b (bs ++ ts.flatten ++ [10]) w w' := by
  have HG := Lib.hid hg
  have HC := Lib.hid hc
  have HGB := Lib.hid hgb
  have HN := Lib.hid hn
  have HL := Lib.hid hl
  have HBW := Lib.hid hBw
  have H0 := Lib.hid (lnto_refl h)
  clear hg hc hgb hn hl h hBw
  go_enter Tryz.func31, Tryz.ntmps31
  go_wp2
  go_loopg [8] n (fun gz y wr => ∃ i : Nat, y = .int .i64 (i : Int) ∧ i + gz = n ∧ LnTo B b (bs ++ (ts.take i).flatten) w wr)
  case atStart => exact ⟨0, rfl, by omega, by rw [List.take_zero, List.flatten_nil, List.append_nil]; exact H0.out⟩
  case round =>
    obtain ⟨i, rfl, hi, hto⟩ := hrel
    obtain ⟨g0, hg0⟩ : ∃ g0, g0 = gk := ⟨_, rfl⟩
    subst hg0
    have HTO := Lib.hid hto
    have hsz := hto.n_bel.size
    have hfl : ((ts.take i).flatten).length ≤ ts.flatten.length := by
      conv => rhs; rw [← List.take_append_drop i ts]
      rw [List.flatten_append, List.length_append]
      omega
    by_cases hlt : i < n
    · have ti : decide ((i : Int) < (n : Int)) = true := decide_eq_true (by omega)
      obtain ⟨t, ht⟩ : ∃ t, ts[i]? = some t := ⟨_, List.getElem?_eq_getElem (by have := HN.out; omega)⟩
      have hnx : (ts.take (i + 1)).flatten = (ts.take i).flatten ++ t := by
        rw [List.take_add_one, ht]
        simp
      have hfn : ((ts.take (i + 1)).flatten).length ≤ ts.flatten.length := by
        conv => rhs; rw [← List.take_append_drop (i + 1) ts]
        rw [List.flatten_append, List.length_append]
        omega
      rw [hnx, List.length_append] at hfn
      have r0 := row_at (kept_block hto.n_keep HG.out HGB.out (by decide)) HC.out ht
      obtain ⟨st, hst⟩ : ∃ st, st = strOf t := ⟨_, rfl⟩
      have HW := Lib.hid (lntext_any B b (bs ++ (ts.take i).flatten) t st hst wr hto.n_ln (by rw [List.length_append]; have := HL.out; omega) (by have := HBW.out; omega))
      rw [← hst] at r0
      have HNX := Lib.hid hnx
      clear hto hfl hfn hnx ht hst
      go_wp2_with (go_at_call 57; refine HW.out.mono ?_; rintro e w2 ⟨rfl, h2⟩; have H2 := Lib.hid (HTO.out.after h2); clear h2)
      go_roundg (g0 - 1)
      case measure => omega
      case rel => exact ⟨i + 1, by go_num, by omega, by rw [HNX.out, ← List.append_assoc]; exact H2.out⟩
    · have ti : decide ((i : Int) < (n : Int)) = false := decide_eq_false (by omega)
      have e1 : ts.take i = ts := List.take_of_length_le (by have := HN.out; omega)
      rw [e1] at HTO hto
      have HW := Lib.hid (lnbyte_any B b (bs ++ ts.flatten) wr hto.n_ln (by rw [List.length_append]; exact HL.out) (by have := HBW.out; omega))
      clear hto hfl e1
      go_wp2_with (go_at_call 58; refine HW.out.mono ?_; rintro e w2 ⟨rfl, h2⟩; have H2 := Lib.hid (HTO.out.after h2); clear h2)
      go_end0
      exact ⟨rfl, H2.out⟩

set_option maxHeartbeats 1000000 in
theorem spdigits_any (n : Int) (w : World) (env : DecEnv w) (hn : Int64 n) : Calls Tryz.prog 38 #[.int .i64 n] w fun e w' => e = .returned (.string (strOf (digT n))) ∧ Below w.heap.size w w' := by
  unfold Int64 at hn
  by_cases h : n < 0
  · have g1 : decide (n < 0) = true := decide_eq_true h
    have hmx : max n 0 = 0 := by omega
    have hd : Calls Tryz.prog 62 #[.int .u64 0, .bool false] w fun e w' => e = .returned (.string (strOf (digitsT 0 false))) ∧ Below w.heap.size w w' := pdigits_any 0 false w env (by decide)
    have HO : Hid (digT n = digitsT 0 false) := Lib.hid (by unfold digT; rw [if_pos h]; rfl)
    obtain ⟨sd, hsd⟩ : ∃ sd, sd = strOf (digitsT 0 false) := ⟨_, rfl⟩
    rw [← hsd] at hd
    have HSD := Lib.hid hsd
    have HD := Lib.hid hd
    clear hsd hd env h
    go_enter Tryz.func38, Tryz.ntmps38
    go_wp2_with (go_at_call 62; refine HD.out.mono ?_; rintro e w1 ⟨rfl, hb⟩)
    go_ret
    exact ⟨by rw [HO.out, ← HSD.out]; rfl, hb⟩
  · obtain ⟨m, rfl⟩ : ∃ m : Nat, n = (m : Int) := ⟨n.toNat, by omega⟩
    have g1 : decide ((m : Int) < 0) = false := decide_eq_false h
    have HO : Hid (digT (m : Int) = digitsT m false) := Lib.hid (by unfold digT; rw [if_neg h]; rfl)
    have hmx : max (m : Int) 0 = (m : Int) := by omega
    have hd := pdigits_any m false w env (by omega)
    have hw : IntKind.u64.wrap (m : Int) = (m : Int) := by rw [IntKind.wrap_u64]; omega
    obtain ⟨sd, hsd⟩ : ∃ sd, sd = strOf (digitsT m false) := ⟨_, rfl⟩
    rw [← hsd] at hd
    have HSD := Lib.hid hsd
    have HD := Lib.hid hd
    clear hsd hd env h
    go_enter Tryz.func38, Tryz.ntmps38
    go_wp2_with (go_at_call 62; refine HD.out.mono ?_; rintro e w1 ⟨rfl, hb⟩)
    go_ret
    exact ⟨by rw [HO.out, ← HSD.out]; rfl, hb⟩
end Go.Proofs.YtjogamffdbedkaaGreatDoor

/- The program's layer 17: what stands ahead of a field of a oneof; a row of texts as a line; an enum's lines. Conditions: those that each theorem names. -/
namespace Go.Proofs.YtjogamffdbedkaaGreatDoor
open Go.RowKit
set_option linter.unusedVariables false
set_option maxRecDepth 100000

theorem sponeof_any (f : Fd) (hf : f.one.length ≤ 1000) (w : World) : Calls Tryz.prog 33 #[fdV f] w fun e w' => e = .returned (.string (strOf (oneofT f))) ∧ Below w.heap.size w w' := by
  have HB : Hid (∀ o, Below w.heap.size w (w.alloc o)) := Lib.hid (fun o => (Below.refl _ w).alloc (Nat.le_refl _) o)
  have he := empty_facts f.one
  obtain ⟨name, num, ty, ref, rep, loose, one⟩ := f
  unfold fdV
  dsimp only at he hf ⊢
  obtain ⟨so, hso⟩ : ∃ so, so = strOf one := ⟨_, rfl⟩
  have z1 : so.size ≤ 1000 := by rw [hso, str_size]; exact hf
  have HSO := Lib.hid hso
  rw [← hso] at he ⊢
  by_cases ho : one = []
  · have o1 : (so.toList == []) = true := by rw [he]; exact decide_eq_true ho
    have o2 : so.toList = [] := beq_iff_eq.1 o1
    have o3 : so.toList.isEmpty = true := by rw [o2]; rfl
    have HO : Hid (oneofT ⟨name, num, ty, ref, rep, loose, one⟩ = []) := Lib.hid (by unfold oneofT; rw [if_pos ho])
    clear he ho hso hf
    go_enter Tryz.func33, Tryz.ntmps33
    go_wp2
    go_ret
    exact ⟨by rw [HO.out]; rfl, HB.out _⟩
  · have o1 : (so.toList == []) = false := by rw [he]; exact decide_eq_false ho
    have o2 : ¬ so.toList = [] := fun e => by rw [e] at o1; simp at o1
    have o3 : so.toList.isEmpty = false := by rw [List.isEmpty_eq_false_iff]; exact o2
    have k1 : ¬ 9223372036854775807 < 6 + so.size := by omega
    have k2 : ¬ 9223372036854775807 < 6 + so.size + 1 := by omega
    have HO : Hid (strOf (oneofT ⟨name, num, ty, ref, rep, loose, one⟩) = ⟨#[111, 110, 101, 111, 102, 32]⟩ ++ so ++ ⟨#[32]⟩) := Lib.hid (by
      unfold oneofT
      rw [if_neg ho, hso, show (⟨#[111, 110, 101, 111, 102, 32]⟩ : ByteArray) = strOf [111, 110, 101, 111, 102, 32] from rfl, show (⟨#[32]⟩ : ByteArray) = strOf [32] from rfl]
      simp only [strOf_append])
    clear he ho hso hf
    go_enter Tryz.func33, Tryz.ntmps33
    go_wp2
    go_ret
    exact ⟨by rw [HO.out]; rfl, HB.out _⟩

/-- A row that the call has just laid. -/
theorem lnrow_any (B b : Nat) (bs : List UInt8) (ts : List (List UInt8)) (w : World) (h : Ln B b bs w) (hBw : B ≤ w.heap.size) (n : Nat) (c : Array Value) (hc : c = (rowOf ts).toArray) (hn : n = ts.length) (hm : n < 1000000) (hl : bs.length + ts.flatten.length + 1 ≤ 140737488355328) (out : List UInt8) (ho : out = bs ++ ts.flatten ++ [10]) (g : Nat) (hg : g = w.heap.size) :
    Calls Tryz.prog 31 #[.pointer (some ⟨b, 0, none⟩), .slice (some ⟨g, 0, none⟩) n n] (w.alloc (.cells c 9)) fun e w' => e = .returned (.tuple #[]) ∧ LnTo B b out w w' := by
  subst ho hg
  have hb : Below w.heap.size w (w.alloc (.cells c 9)) := (Below.refl _ w).alloc (Nat.le_refl _) _
  refine (lnline_any B b bs ts (w.alloc (.cells c 9)) (ln_still h hb) w.heap.size n c (heap_alloc_new w _) hc (by have := (ln_lt h).2; omega) hn hm hl (by have := hb.size; omega)).mono ?_
  rintro e w2 ⟨he, h2⟩
  exact ⟨he, (lnto_still h hBw hb).after h2⟩

/-- The lines, and the call's own box. -/
structure LnBx (B b : Nat) (bs : List UInt8) (w wr : World) (cs : Array Value) (t : TypeId) : Prop where
  x_to : LnTo B b bs w wr
  x_bx : wr.heap[w.heap.size]? = some (.cells cs t (0, 0))
  x_ne : w.heap.size ≠ b
theorem lnbx_start {B b : Nat} {bs : List UInt8} {w : World} (h : Ln B b bs w) (hBw : B ≤ w.heap.size) (cs : Array Value) (t : TypeId) : LnBx B b bs w (w.alloc (.cells cs t)) cs t :=
  ⟨lnto_still h hBw ((Below.refl _ w).alloc (Nat.le_refl _) _), heap_alloc_new w _, by have := (ln_lt h).2; omega⟩
theorem lnbx_after {B b : Nat} {x y : List UInt8} {w v u : World} {cs : Array Value} {t : TypeId} (h : LnBx B b x w v cs t) (k : LnTo B b y v u) (ht : t ≠ 5) : LnBx B b y w u cs t :=
  ⟨h.x_to.after k, kept_block k.n_keep h.x_bx h.x_ne ht, h.x_ne⟩
theorem lnbx_still {B b : Nat} {x : List UInt8} {w v u : World} {cs : Array Value} {t : TypeId} (h : LnBx B b x w v cs t) (hBw : B ≤ w.heap.size) (hb : Below v.heap.size v u) (ht : t ≠ 5) : LnBx B b x w u cs t :=
  lnbx_after h (lnto_still h.x_to.n_ln (Nat.le_trans hBw h.x_to.n_bel.size) hb) ht

set_option maxHeartbeats 4000000 in
theorem lnenum_any {S : Nat → Prop} (W : World) (b : Nat) (bs : List UInt8) (w : World) (hW : Below W.heap.size W w) (env : DecEnv W) (h : Ln W.heap.size b bs w) {A : Option Addr} {cap nv : Nat} {x : En} (hl : Lst 2 S vlR W A cap x.values) (hnv : nv = x.values.length) (hf : EnFits x) (sn : ByteArray) (hsn : sn = strOf x.name) (hbs : bs.length ≤ 1000000000) :
    Calls Tryz.prog 20 #[.pointer (some ⟨b, 0, none⟩), .agg #[.string sn, .slice A nv cap]] w fun e w' => e = .returned (.tuple #[]) ∧ LnTo W.heap.size b (bs ++ enumText x) w w' := by
  have q1 := hl.l_le
  have q2 := hl.l_max
  unfold maxLen at q2
  rw [← hnv] at q1
  have hBw : W.heap.size ≤ w.heap.size := hW.size
  have HBS := Lib.hid hbs
  have HBW := Lib.hid hBw
  have HW := Lib.hid hW
  have HENV := Lib.hid (fun u (hb : Below W.heap.size W u) => env.along hb)
  have HL := Lib.hid hl
  have HNV := Lib.hid hnv
  have HF := Lib.hid hf
  have HX := Lib.hid (lnbx_start h hBw #[.string sn, .slice A nv cap] 36)
  have hhl : (enumHead x).length ≤ 2010 := by
    have := hf.ef_name
    unfold enumHead
    simp only [List.length_append, List.length_cons, List.length_nil]
    omega
  have HHL := Lib.hid hhl
  have H1 := Lib.hid (lnrow_any W.heap.size b bs [[101, 110, 117, 109, 32], x.name, [32, 123]] (w.alloc (.cells #[.string sn, .slice A nv cap] 36)) HX.out.x_to.n_ln (by have := HX.out.x_to.n_bel.size; omega) 3 #[.string ⟨#[101, 110, 117, 109, 32]⟩, .string sn, .string ⟨#[32, 123]⟩] (by rw [hsn]; rfl) rfl (by decide) (by
      have := hf.ef_name
      simp only [List.flatten_cons, List.flatten_nil, List.length_append, List.length_cons, List.length_nil]
      omega) (bs ++ enumHead x) (by
      unfold enumHead
      simp only [List.flatten_cons, List.flatten_nil, List.append_assoc, List.append_nil, List.cons_append, List.nil_append]) (w.heap.size + 1) (by simp))
  have r0 := obj_cell HX.out.x_bx 0
  have r1 := obj_cell HX.out.x_bx 1
  simp only [List.getElem?_toArray, List.getElem?_cons_zero, List.getElem?_cons_succ] at r0 r1
  clear env h hl hnv hf hsn hbs hW hhl hBw
  go_enter Tryz.func20, Tryz.ntmps20
  go_wp2_with (first
    | (go_at_call 31; refine H1.out.mono ?_; rintro e w1 ⟨rfl, h1⟩; replace HX := Lib.hid (lnbx_after HX.out h1 (by decide)); clear h1 r0 r1; have r0 := obj_cell HX.out.x_bx 0; have r1 := obj_cell HX.out.x_bx 1; simp only [List.getElem?_toArray, List.getElem?_cons_zero, List.getElem?_cons_succ] at r0 r1))
  clear r0 r1
  go_loopg [14] nv (fun gz y wr => ∃ i : Nat, y = .int .i64 (i : Int) ∧ i + gz = nv ∧ LnTo W.heap.size b (bs ++ enumHead x ++ (x.values.take i).flatMap valLine) w wr)
  case atStart => exact ⟨0, rfl, by omega, by rw [show (x.values.take 0).flatMap valLine = [] from rfl, List.append_nil]; exact HX.out.x_to⟩
  case round =>
    obtain ⟨i, rfl, hi, hto⟩ := hrel
    obtain ⟨wk, hwk⟩ : ∃ wk, wk = wr := ⟨_, rfl⟩
    subst hwk
    obtain ⟨g0, hg0⟩ : ∃ g0, g0 = gk := ⟨_, rfl⟩
    subst hg0
    have HTO := Lib.hid hto
    clear HX
    have hsz : W.heap.size ≤ wk.heap.size := by have := hto.n_bel.size; have := HBW.out; omega
    have HSZ := Lib.hid hsz
    have hacc : (bs ++ enumHead x ++ (x.values.take i).flatMap valLine).length ≤ 1000208000 := by
      have h1 := enumBody_len HF.out i
      have := HBS.out
      rw [List.append_assoc, List.length_append]
      omega
    have HACC := Lib.hid hacc
    by_cases hlt : i < nv
    · have ti : decide ((i : Int) < (nv : Int)) = true := decide_eq_true (by omega)
      obtain ⟨v, hv⟩ : ∃ v, x.values[i]? = some v := ⟨_, List.getElem?_eq_getElem (by have := HNV.out; omega)⟩
      obtain ⟨gv, ov, rfl, -, hcv⟩ := vl_at HL.out hv
      obtain ⟨hv1, hv2⟩ := HF.out.ef_each v (List.mem_of_getElem? hv)
      have hnx : bs ++ enumHead x ++ (x.values.take (i + 1)).flatMap valLine = bs ++ enumHead x ++ (x.values.take i).flatMap valLine ++ [[32, 32], v.name, [32, 61, 32], digT v.num, [59]].flatten ++ [10] := by
        rw [flat_snoc _ _ _ _ hv]
        unfold valLine
        simp only [List.flatten_cons, List.flatten_nil, List.append_assoc, List.append_nil, List.cons_append, List.nil_append]
      have HNX := Lib.hid hnx
      have hdl := digT_len hv2
      obtain ⟨acc, haccd⟩ : ∃ acc, acc = bs ++ enumHead x ++ (x.values.take i).flatMap valLine := ⟨_, rfl⟩
      rw [← haccd] at hacc hto HTO HNX hnx HACC
      obtain ⟨sv, hsv⟩ : ∃ sv, sv = strOf v.name := ⟨_, rfl⟩
      have HD := Lib.hid (fun u (hb : Below W.heap.size W u) => spdigits_any v.num u (HENV.out u hb) hv2)
      obtain ⟨sd, hsd⟩ : ∃ sd, sd = strOf (digT v.num) := ⟨_, rfl⟩
      obtain ⟨num, hnum⟩ : ∃ num, num = v.num := ⟨_, rfl⟩
      rw [← hsv, ← hnum] at hcv
      rw [← hsd, ← hnum] at HD
      obtain ⟨d0, d1⟩ := hcv _ (HW.out.trans hto.n_bel)
      obtain ⟨wb, hwb⟩ : ∃ wb, wb = wk.alloc (.cells #[.string sv, .int .i64 num] 41) := ⟨_, rfl⟩
      have hbx : LnBx W.heap.size b acc wk wb #[.string sv, .int .i64 num] 41 := by rw [hwb]; exact lnbx_start hto.n_ln hsz _ _
      have HBX := Lib.hid hbx
      have HWB : Hid (Below W.heap.size W wb) := Lib.hid (HW.out.trans (hto.n_bel.trans hbx.x_to.n_bel))
      have HLN := Lib.hid (fun u (hb : Below wb.heap.size wb u) => lnrow_any W.heap.size b acc [[32, 32], v.name, [32, 61, 32], digT v.num, [59]] u (ln_still hbx.x_to.n_ln hb) (by have := hbx.x_to.n_bel.size; have := hb.size; omega) 5 #[.string ⟨#[32, 32]⟩, .string sv, .string ⟨#[32, 61, 32]⟩, .string sd, .string ⟨#[59]⟩] (by rw [hsv, hsd]; rfl) rfl (by decide) (by
          simp only [List.flatten_cons, List.flatten_nil, List.length_append, List.length_cons, List.length_nil]
          omega) _ hnx _ rfl)
      have HK : Hid (∀ y u w', Below wb.heap.size wb u → LnTo W.heap.size b y u w' → w'.cell? ⟨wk.heap.size, 0, none⟩ = some (.string sv) ∧ w'.cell? ⟨wk.heap.size, 1, none⟩ = some (.int .i64 num)) := Lib.hid (fun y u w' hb hk => by
        have hx := lnbx_after (lnbx_still hbx hsz hb (by decide)) hk (by decide)
        exact ⟨obj_cell hx.x_bx 0, obj_cell hx.x_bx 1⟩)
      have HK0 : Hid (∀ u, Below wb.heap.size wb u → u.cell? ⟨wk.heap.size, 0, none⟩ = some (.string sv) ∧ u.cell? ⟨wk.heap.size, 1, none⟩ = some (.int .i64 num)) := Lib.hid (fun u hb => by
        have hx := lnbx_still hbx hsz hb (by decide)
        exact ⟨obj_cell hx.x_bx 0, obj_cell hx.x_bx 1⟩)
      have HFR : Hid (Below wb.heap.size wb wb.drew) := Lib.hid (drewN_under wb 1)
      have HWBE := Lib.hid hwb
      clear hv hcv hv1 hv2 hsv hsd hnum hnx haccd hto hacc hbx hwb hdl hsz
      go_wp2
      rw [← HWBE.out]
      go_region_held3 (fun w' => w'.cell? ⟨wk.heap.size, 0, none⟩ = some (.string sv) ∧ w'.cell? ⟨wk.heap.size, 1, none⟩ = some (.int .i64 num))
        (first | exact HK0.out _ HFR.out | exact HK0.out _ (HFR.out.alloc HFR.out.size _) | exact HK.out _ _ _ HFR.out H2.out)
        (first
          | (go_at_call 38; refine (HD.out _ (HWB.out.trans (HFR.out.mono HWB.out.size))).mono ?_; rintro e w1 ⟨rfl, hb⟩; replace HFR := Lib.hid (HFR.out.trans (hb.mono HFR.out.size)); clear hb)
          | (go_at_call 31; refine (HLN.out _ HFR.out).mono ?_; rintro e w2 ⟨rfl, h2⟩; have H2 := Lib.hid h2; clear h2))
      go_wp2
      go_roundg (g0 - 1)
      case measure => omega
      case rel => exact ⟨i + 1, by go_num, by omega, HTO.out.after (HBX.out.x_to.after ((lnto_still HBX.out.x_to.n_ln (by have := HBX.out.x_to.n_bel.size; have := HSZ.out; omega) HFR.out).after H2.out))⟩
    · have ti : decide ((i : Int) < (nv : Int)) = false := decide_eq_false (by omega)
      have e1 : x.values.take i = x.values := List.take_of_length_le (by have := HNV.out; omega)
      rw [e1] at hto hacc
      have HTE := Lib.hid hto
      have H1 := Lib.hid (lnrow_any W.heap.size b _ [[125]] wk hto.n_ln hsz 1 #[.string ⟨#[125]⟩] rfl rfl (by decide) (by
        simp only [List.flatten_cons, List.flatten_nil, List.length_append, List.length_cons, List.length_nil] at hacc ⊢
        omega) (bs ++ enumText x) (by
        unfold enumText
        simp only [List.flatten_cons, List.flatten_nil, List.append_assoc, List.append_nil, List.cons_append, List.nil_append]) _ rfl)
      clear hto hacc e1 HTO hsz
      go_wp2_with (first
        | (go_at_call 31; refine H1.out.mono ?_; rintro e w2 ⟨rfl, h2⟩; have H2 := Lib.hid h2; clear h2))
      go_end0
      exact ⟨rfl, HTE.out.after H2.out⟩
end Go.Proofs.YtjogamffdbedkaaGreatDoor
