/- Several texts in one: RvI, RzD, RzE, PnB, PnC, RzG, RzH, StA, StB. What each proves, and its conditions, stands at its own head. -/
import Derived.Test.YtcjjphioeneiiaaGreatDoorPkSB17
import Derived.Test.YtcjjphioeneiiaaGreatDoorPkSB10
import Derived.Deep.AppendLies
import Derived.Test.YtcjjphioeneiiaaGreatDoorPkSB26
import Derived.Lib.AppendZeros
import Derived.Test.YtcjjphioeneiiaaGreatDoorPkSB4
import Derived.Test.YtcjjphioeneiiaaGreatDoorPkSB24
import Derived.Test.YtcjjphioeneiiaaGreatDoorPkSB16
import Derived.Deep.LoopGhost
import Derived.Deep.CutRange
import Derived.Deep.RegionLaw
import Derived.Test.YtcjjphioeneiiaaGreatDoorPkSB0
import Derived.Shelf.SlSortCmp.InsertionK
import Derived.WalkKit
import Derived.Test.YtcjjphioeneiiaaGreatDoorPkSB2
/- The document's Copy of a schema. Conditions: those that each theorem names. -/
namespace Go.Proofs.YtcjjphioeneiiaaGreatDoor
open Go.RowKit
set_option linter.unusedVariables false
set_option maxRecDepth 100000

theorem info_vl : (Tryz.prog.info? 67).map (fun i => (i.zero, i.size, i.bytes)) = some (some (.agg #[.string ⟨#[]⟩, .int .i64 0]), 2, 24) := by kernel_rfl
theorem info_fd : (Tryz.prog.info? 70).map (fun i => (i.zero, i.size, i.bytes)) = some (some (.agg #[.string ⟨#[]⟩, .int .i64 0, .int .i64 0, .string ⟨#[]⟩, .bool false, .bool false, .string ⟨#[]⟩]), 7, 72) := by kernel_rfl
theorem info_in : (Tryz.prog.info? 3).map (fun i => (i.zero, i.size, i.bytes)) = some (some (.int .i64 0), 1, 8) := by kernel_rfl
theorem info_en : (Tryz.prog.info? 47).map (fun i => (i.zero, i.size, i.bytes)) = some (some (.agg #[.string ⟨#[]⟩, .slice none 0 0]), 2, 40) := by kernel_rfl
theorem info_ms : (Tryz.prog.info? 43).map (fun i => (i.zero, i.size, i.bytes)) = some (some (.agg #[.string ⟨#[]⟩, .slice none 0 0, .slice none 0 0]), 3, 64) := by kernel_rfl
def vlCells (x : Vl) : List Value := [.string (strOf x.name), .int .i64 x.num]
def inCells (x : Int) : List Value := [.int .i64 x]
theorem vl_one (x : Vl) : ∀ u ∈ vlCells x, u.oneCell' = true := by intro u hu; simp [vlCells] at hu; rcases hu with rfl | rfl <;> rfl
theorem fd_one (x : Fd) : ∀ u ∈ fdCells x, u.oneCell' = true := by intro u hu; simp [fdCells] at hu; rcases hu with rfl | rfl | rfl | rfl | rfl | rfl | rfl <;> rfl
theorem in_one (x : Int) : ∀ u ∈ inCells x, u.oneCell' = true := by intro u hu; simp [inCells] at hu; subst hu; rfl
theorem news_at (w : World) (cs : Array Value) (t : TypeId) : ∀ j u, cs.toList[j]? = some u → (w.alloc (.cells cs t)).cell? ((⟨w.heap.size, 0, none⟩ : Addr).add j) = some u := fun j u hu => World.news_of_block (heap_alloc_new w _) j u hu
end Go.Proofs.YtcjjphioeneiiaaGreatDoor

/- The document's layer 18: an enum is read. Conditions: those that each theorem names. -/
namespace Go.Proofs.YtcjjphioeneiiaaGreatDoor
open Go.RowKit
set_option linter.unusedVariables false
set_option maxRecDepth 100000

/-- 'append' off what it answers. -/
theorem wpl_append_x {P : Program} {w : World} {ops : Array Oper} {rest : List Oper} {o : Oper} {a : Act} {Q : Exit → Act → World → Prop} {t : TypeId} {v y : Value} (hgd : o.guard = none) (s x : Operand)
 (ho : o.op = .call { callee := .builtin .append, args := #[s, x], argTypes := #[t, t] }) (hs : a.eval s = v) (hx : a.eval x = y) {X : Value → World → Prop}
 (hr : ∃ v' w', (Builtin.append_ #[t, t] o.type #[v, y]).run P w = .ok v' w' ∧ X v' w') (h : ∀ v' w', X v' w' → wpList P ops Q rest (a.put o.dst v') w') : wpList P ops Q (o :: rest) a w := by
 obtain ⟨v', w', hr, hX⟩ := hr
 exact Lib.wpList_append_run w hgd s x t t ho v y hs hx v' w' hr (h v' w' hX)

/-! ### How the reader moves -/
theorem need_ge (l : List Tk) (x : Ps) (t : List UInt8) : x.at_i ≤ (needP l x t).at_i := by
 unfold needP
 split
 ·exact Nat.le_succ _
 ·exact Nat.le_refl _
theorem need_bad {l : List Tk} {x : Ps} {t : List UInt8} (h : x.at_bad = true) : (needP l x t).at_bad = true := by
 unfold needP
 split
 ·exact h
 ·rfl
theorem num_ge (l : List Tk) (x : Ps) : x.at_i ≤ (numP l x).2.at_i := by
 unfold numP
 split
 ·exact Nat.le_refl _
 ·exact Nat.le_succ _
theorem num_bad {l : List Tk} {x : Ps} (h : x.at_bad = true) : (numP l x).2.at_bad = true := by
 unfold numP
 rw [if_pos (by unfold noNum; rw [h]; rfl)]
 rfl
theorem name_or (l : List Tk) (x : Ps) : (nameP l x).2.at_bad = true ∨ (nameP l x).2.at_i = x.at_i + 1 := by
 unfold nameP
 split
 ·exact .inl rfl
 ·exact .inr rfl

section
variable {w wr W2 : World} {p b0 b cap base k n : Nat} {A : Option Addr} {l : List Tk} {x x' : Ps} {t tv : TypeId} {z cs : Array Value} {v : Value} {xs : List Value}
theorem rz_own_set (ho : wr.ownsRow base tv k v n xs) {q : Nat} (hq : v.ownBlock ≠ some q) (j : Nat) (u : Value) : (wr.setCell ⟨q, j, none⟩ u).ownsRow base tv k v n xs :=
 own_block ho (fun k' hk => Below.heap_setCell wr ⟨q, j, none⟩ u k' (fun e => hq (by have e' : k' = q := e; rw [← e']; exact hk)))
end
theorem rz_typed_set {α : Type} {kk k base j : Nat} {R : World → List Value → α → Prop} {w : World} {A : Option Addr} {c b : Nat} {l : List α} {cs : Array Value} {t : TypeId} {u : Value} (h : Lst kk (Typed base w k) R w A c l) (hb : w.heap[b]? = some (.cells cs t (0, 0))) (hne : t ≠ tyK k) (hR : ∀ ds x, R w ds x → R (w.setCell ⟨b, j, none⟩ u) ds x) : Lst kk (Typed base (w.setCell ⟨b, j, none⟩ u) k) R (w.setCell ⟨b, j, none⟩ u) A c l := by
 have hk : ∀ g, Typed base w k g → (w.setCell ⟨b, j, none⟩ u).heap[g]? = w.heap[g]? := fun g ⟨_, ds, hg⟩ => Below.heap_setCell w ⟨b, j, none⟩ u g (fun e => by
  have e' : g = b := e
  subst e'
  rw [hb] at hg
  injection hg with hg
  injection hg with e1 e2
  exact hne e2)
 exact lst_keep h hR (fun g hg => ⟨hg.1, hg.2.imp fun ds e => (hk g hg).trans e⟩) (fun p hp _ => World.cell?_of_block (hk p.block hp))
theorem own_not {w : World} {base k n q : Nat} {t tv : TypeId} {v : Value} {xs : List Value} {cs : Array Value} (ho : w.ownsRow base tv k v n xs) (hb : w.heap[q]? = some (.cells cs t (0, 0))) (hne : t ≠ tv) : v.ownBlock ≠ some q := fun e => by
 obtain ⟨_, es, he⟩ := own_typed ho e
 rw [hb] at he
 injection he with he
 injection he with e1 e2
 exact hne e2
/-- One round of an enum's values in plain words. -/
def valRound (l : List Tk) (y : Ps) : Vl × Ps := (⟨(nameP l y).1, ((numP l (needP l (nameP l y).2 [61])).1 : Int)⟩, needP l (numP l (needP l (nameP l y).2 [61])).2 [59])
theorem vals_round {l : List Tk} {y : Ps} {g : Nat} (hb : y.at_bad = false) (ht : isP l y [125] = false) : valsP l (g + 1) y = ((valRound l y).1 :: (valsP l g (valRound l y).2).1, (valsP l g (valRound l y).2).2) := by
 rw [valsP, if_neg (by rw [hb]; decide), if_neg (by rw [ht]; decide)]
 rfl
theorem round_or {l : List Tk} (y : Ps) : (valRound l y).2.at_bad = true ∨ y.at_i + 1 ≤ (valRound l y).2.at_i := by
 show (needP l (numP l (needP l (nameP l y).2 [61])).2 [59]).at_bad = true ∨ _ ≤ (needP l (numP l (needP l (nameP l y).2 [61])).2 [59]).at_i
 rcases name_or l y with h | h
 ·exact .inl (need_bad (num_bad (need_bad h)))
 ·refine .inr ?_
  have h1 := need_ge l (nameP l y).2 [61]
  have h2 := num_ge l (needP l (nameP l y).2 [61])
  have h3 := need_ge l (numP l (needP l (nameP l y).2 [61])).2 [59]
  omega
/-- The values so far. -/
structure ESt (l : List Tk) (y0 : Ps) (es : List Vl) (y : Ps) (f : Nat) : Prop where
 es_all : valsP l (l.length + 1) y0 = (es ++ (valsP l f y).1, (valsP l f y).2)
 es_cnt : es.length + f = l.length + 1
 es_go : y.at_bad = true ∨ l.length < f + y.at_i
theorem est_bad {l : List Tk} {y0 y : Ps} {es : List Vl} {f : Nat} (h : ESt l y0 es y f) (hb : y.at_bad = true) : valsP l (l.length + 1) y0 = (es, y) := by
 rw [h.es_all]
 have : valsP l f y = ([], y) := by
  cases f with
  | zero => rfl
  | succ f => rw [valsP, if_pos hb]
 rw [this, List.append_nil]
theorem est_end {l : List Tk} {y0 y : Ps} {es : List Vl} {f : Nat} (h : ESt l y0 es y f) (hb : y.at_bad = false) (hi : y.at_i < l.length) (ht : isP l y [125] = true) : valsP l (l.length + 1) y0 = (es, nextP y) := by
 rw [h.es_all]
 obtain ⟨g, rfl⟩ : ∃ g, f = g + 1 := ⟨f - 1, by have := h.es_go; rw [hb] at this; simp at this; omega⟩
 rw [valsP, if_neg (by rw [hb]; decide), if_pos ht, List.append_nil]
theorem est_on {l : List Tk} {y0 y : Ps} {es : List Vl} {f : Nat} (h : ESt l y0 es y f) (hb : y.at_bad = false) (hi : y.at_i < l.length) (ht : isP l y [125] = false) : 0 < f ∧ ESt l y0 (es ++ [(valRound l y).1]) (valRound l y).2 (f - 1) := by
 have hg := h.es_go
 rw [hb] at hg
 simp at hg
 obtain ⟨g, rfl⟩ : ∃ g, f = g + 1 := ⟨f - 1, by omega⟩
 refine ⟨Nat.succ_pos _, ?_, ?_, ?_⟩
 ·rw [h.es_all, vals_round hb ht, List.append_assoc]
  rfl
 ·have := h.es_cnt
  rw [List.length_append]
  show es.length + 1 + (g + 1 - 1) = l.length + 1
  omega
 ·rcases round_or (l := l) y with h1 | h1
  ·exact .inl h1
  ·exact .inr (by show l.length < (g + 1 - 1) + _; omega)
def ez : Array Value := #[.string ⟨#[]⟩, .slice none 0 0]
end Go.Proofs.YtcjjphioeneiiaaGreatDoor

/- The document's layer 18: a message is read. Conditions: those that each theorem names. -/
namespace Go.Proofs.YtcjjphioeneiiaaGreatDoor
open Go.RowKit
set_option linter.unusedVariables false
set_option maxRecDepth 100000

theorem one_in {l : List Tk} {x : Ps} (hE : EndOk l) (h : x.at_i < l.length) : (oneP l x).2.at_i < l.length := by
 unfold oneP
 split
 ·rename_i e; exact name_in hE (isP_next hE h e)
 ·exact h
theorem ways_in {l : List Tk} {x : Ps} (hE : EndOk l) (h : x.at_i < l.length) : (waysP l x).at_i < l.length := by
 unfold waysP
 split
 ·rename_i e
  rw [Bool.or_eq_true] at e
  rcases e with e | e
  ·exact isP_next hE h e
  ·unfold looP at e
   rw [Bool.and_eq_true] at e
   exact isP_next hE h e.2
 ·exact h
theorem field_in {l : List Tk} {x : Ps} (hE : EndOk l) (h : x.at_i < l.length) : (fieldP l x).2.at_i < l.length :=
 need_in hE (num_in hE (need_in hE (name_in hE (name_in hE (ways_in hE (one_in hE h)))) _)) _
def mz : Array Value := #[.string ⟨#[]⟩, .slice none 0 0, .slice none 0 0]
def inC (x : Int) : List Value := [.int .i64 x]
section
variable {w wr W2 w' : World} {p b cap : Nat} {A : Option Addr} {l : List Tk} {x x' : Ps} {sn : ByteArray} {v1 v2 v' : Value} {fs : List Fd} {ns : List Int}
end
end Go.Proofs.YtcjjphioeneiiaaGreatDoor

/- The landed layer 18: a name and its number, a line of barred numbers, a field. Conditions: those that each theorem names. -/
namespace Go.Proofs.YtcjjphioeneiiaaGreatDoor
open Go.RowKit
set_option linter.unusedVariables false
set_option maxRecDepth 100000

section
variable {l : List Tk} {y : Ps} {i : Nat} {t : List UInt8}
theorem ok_ps (h : y.at_bad = false) : y = ⟨y.at_i, false⟩ := by rw [← h]
theorem name_stays (h : y.at_bad = true) : (nameP l y).2 = y := by
 unfold nameP
 rw [if_pos (by unfold noName; rw [h]; rfl)]
 show (⟨y.at_i, true⟩ : Ps) = y
 rw [← h]
theorem num_stays (h : y.at_bad = true) : (numP l y).2 = y := by
 unfold numP
 rw [if_pos (by unfold noNum; rw [h]; rfl)]
 show (⟨y.at_i, true⟩ : Ps) = y
 rw [← h]
theorem isP_bad (h : y.at_bad = true) : isP l y t = false := by unfold isP; rw [h]; rfl
theorem need_stays (h : y.at_bad = true) : needP l y t = y := by
 unfold needP
 rw [isP_bad h, if_neg (by decide)]
 show (⟨y.at_i, true⟩ : Ps) = y
 rw [← h]
theorem need_yes (hg : GoodT l) (hi : i < l.length) (ht : wordish t = false) (h : isK l i 4 t = true) : needP l ⟨i, false⟩ t = ⟨i + 1, false⟩ := by
 unfold needP
 rw [← isK_mark hg hi ht, h, if_pos rfl]
 rfl
theorem need_no (hg : GoodT l) (hi : i < l.length) (ht : wordish t = false) (h : isK l i 4 t = false) : needP l ⟨i, false⟩ t = ⟨i, true⟩ := by
 unfold needP
 rw [← isK_mark hg hi ht, h, if_neg (by decide)]
 rfl
theorem nxt_yes {kd : Int} (h : isK l i kd t = true) : nxtK l i kd t = i + 1 := if_pos h
theorem nxt_no {kd : Int} (h : isK l i kd t = false) : nxtK l i kd t = i := if_neg (by rw [h]; decide)
theorem isK_in {kd : Int} (hE : EndOk l) (hi : i < l.length) (hk : kd ≠ 0) (h : isK l i kd t = true) : i + 1 < l.length := by
 refine hE i _ (List.getElem?_eq_getElem hi) fun e => ?_
 unfold isK at h
 rw [Bool.and_eq_true, decide_eq_true_iff, decide_eq_true_iff] at h
 have ht : tokOf l i = l[i] := by unfold tokOf; rw [List.getElem?_eq_getElem hi]; rfl
 rw [ht, e] at h
 exact hk h.1.symm
/-- A name and its number. -/
def nbP (l : List Tk) (y : Ps) : (List UInt8 × Nat) × Ps := (((nameP l y).1, (numP l (needP l (nameP l y).2 [61])).1), needP l (numP l (needP l (nameP l y).2 [61])).2 [59])
theorem nb_bad1 (h : (nameP l y).2.at_bad = true) : (nbP l y).2 = (nameP l y).2 := by unfold nbP; dsimp only; rw [need_stays h, num_stays h, need_stays h]
theorem nb_bad2 (h : (needP l (nameP l y).2 [61]).at_bad = true) : (nbP l y).2 = needP l (nameP l y).2 [61] := by unfold nbP; dsimp only; rw [num_stays h, need_stays h]
theorem nb_bad3 (h : (numP l (needP l (nameP l y).2 [61])).2.at_bad = true) : (nbP l y).2 = (numP l (needP l (nameP l y).2 [61])).2 := by unfold nbP; dsimp only; rw [need_stays h]
theorem ends_bad {z : Ps} {v : Value} (hb : z.at_bad = true) (e : y = z) : Ends y v (.panicked [{ v := errV, recovered := false }]) := by
 subst e
 exact .inr ⟨hb, rfl⟩
theorem name_go (h : (nameP l ⟨i, false⟩).2.at_bad = false) : (nameP l ⟨i, false⟩).2 = ⟨i + 1, false⟩ := by
 unfold nameP at h ⊢
 split at h
 ·cases h
 ·rename_i e; rw [if_neg e]; rfl
theorem num_go (h : (numP l ⟨i, false⟩).2.at_bad = false) : (numP l ⟨i, false⟩).2 = ⟨i + 1, false⟩ := by
 unfold numP at h ⊢
 split at h
 ·cases h
 ·rename_i e; rw [if_neg e]; rfl
theorem name_ok_in (hE : EndOk l) (hi : i < l.length) (h : (nameP l ⟨i, false⟩).2.at_bad = false) : i + 1 < l.length := by
 refine hE i _ (List.getElem?_eq_getElem hi) fun e => ?_
 have ht : tokOf l i = l[i] := by unfold tokOf; rw [List.getElem?_eq_getElem hi]; rfl
 unfold nameP noName at h
 rw [ht, e] at h
 simp [wrongP] at h
theorem num_ok_in (hE : EndOk l) (hi : i < l.length) (h : (numP l ⟨i, false⟩).2.at_bad = false) : i + 1 < l.length := by
 refine hE i _ (List.getElem?_eq_getElem hi) fun e => ?_
 have ht : tokOf l i = l[i] := by unfold tokOf; rw [List.getElem?_eq_getElem hi]; rfl
 unfold numP noNum at h
 rw [ht, e] at h
 simp [wrongP] at h
end

set_option maxHeartbeats 8000000 in
theorem nnumbered_any {w : World} {p cap i : Nat} {A : Option Addr} {l : List Tk} (h : NAt w p A cap l i) (hl : l.length ≤ 100000) (hg : GoodT l) (hE : EndOk l) :
 Calls Tryz.prog 185 #[.pointer (some ⟨p, 0, none⟩)] w fun e w' => Ends (nbP l ⟨i, false⟩).2 (.tuple #[.string (strOf (nbP l ⟨i, false⟩).1.1), .int .i64 ((nbP l ⟨i, false⟩).1.2 : Int)]) e ∧ NTo w p A cap l (nbP l ⟨i, false⟩).2.at_i w' := by
 have H := Lib.hid h
 have HL := Lib.hid hl
 have HG := Lib.hid hg
 have HE := Lib.hid hE
 have HD : Hid (nbP l ⟨i, false⟩ = (((nameP l ⟨i, false⟩).1, (numP l (needP l (nameP l ⟨i, false⟩).2 [61])).1), needP l (numP l (needP l (nameP l ⟨i, false⟩).2 [61])).2 [59])) := Lib.hid rfl
 have HC := Lib.hid (nname_any h hl)
 have HB1 := Lib.hid (nb_bad1 (l := l) (y := ⟨i, false⟩))
 have HB2 := Lib.hid (nb_bad2 (l := l) (y := ⟨i, false⟩))
 have HB3 := Lib.hid (nb_bad3 (l := l) (y := ⟨i, false⟩))
 obtain ⟨r, hr⟩ : ∃ r, r = nbP l ⟨i, false⟩ := ⟨_, rfl⟩
 rw [← hr] at HD HB1 HB2 HB3 ⊢
 have K0 := True.intro
 clear h hl hg hE hr
 go_enter Tryz.func185, Tryz.ntmps185
 go_wp2_with (first
  | (clear K0; go_at_call 183; refine HC.out.mono ?_; rintro e w1 ⟨⟨hb, rfl⟩ | ⟨hb, rfl⟩, hn⟩
     case inr => (go_wp2; exact ⟨rfl, ends_bad hb (HB1.out hb), by rw [HB1.out hb]; exact hn⟩)
     rw [name_go hb] at hn
     rw [name_go hb] at HD HB2 HB3
     have hi := name_ok_in HE.out H.out.na_in hb
     replace H := Lib.hid (na_after H.out hn hi)
     have HN := Lib.hid hn
     have K1 := True.intro
     clear hn hb hi HC HB1)
  | (clear K1; go_at_call 184; refine (nmark_any H.out HL.out [61] ⟨#[61]⟩ rfl).mono ?_; rintro e w2 ⟨rfl, hn⟩
     have hq := H.out.na_in
     cases hk : isK l (i + 1) 4 [61]
     case false => (rw [need_no HG.out hq (by decide) hk] at HB2; rw [nxt_no hk] at hn; go_wp2_with (go_at_call 111; refine (nmust_any false _).mono ?_; rintro e w3 ⟨rfl, rfl⟩); exact ⟨rfl, ends_bad rfl (HB2.out (by trivial)), by rw [HB2.out (by trivial)]; exact nt_trans HN.out hn⟩)
     rw [need_yes HG.out hq (by decide) hk] at HD HB3
     rw [nxt_yes hk] at hn
     have hi := isK_in HE.out hq (by decide) hk
     replace H := Lib.hid (na_after H.out hn hi)
     replace HN := Lib.hid (nt_trans HN.out hn)
     have K2 := True.intro
     clear hn hk hq hi HB2)
  | (go_at_call 111; refine (nmust_any true _).mono ?_; rintro e w3 ⟨rfl, rfl⟩)
  | (clear K2; go_at_call 244; refine (nnumber_any H.out HL.out).mono ?_; rintro e w1 ⟨⟨hb, rfl⟩ | ⟨hb, rfl⟩, hn⟩
     case inr => (go_wp2; exact ⟨rfl, ends_bad hb (HB3.out hb), by rw [HB3.out hb]; exact nt_trans HN.out hn⟩)
     rw [num_go hb] at hn
     rw [num_go hb] at HD
     have hi := num_ok_in HE.out H.out.na_in hb
     replace H := Lib.hid (na_after H.out hn hi)
     replace HN := Lib.hid (nt_trans HN.out hn)
     have K3 := True.intro
     clear hn hb hi HB3)
  | (clear K3; go_at_call 184; refine (nmark_any H.out HL.out [59] ⟨#[59]⟩ rfl).mono ?_; rintro e w2 ⟨rfl, hn⟩
     have hq := H.out.na_in
     cases hk : isK l (i + 1 + 1 + 1) 4 [59]
     case false => (rw [need_no HG.out hq (by decide) hk] at HD; rw [nxt_no hk] at hn; go_wp2_with (go_at_call 111; refine (nmust_any false _).mono ?_; rintro e w3 ⟨rfl, rfl⟩); exact ⟨rfl, by rw [HD.out]; exact .inr ⟨rfl, rfl⟩, by rw [HD.out]; exact nt_trans HN.out hn⟩)
     rw [need_yes HG.out hq (by decide) hk] at HD
     rw [nxt_yes hk] at hn
     replace HN := Lib.hid (nt_trans HN.out hn)
     clear hn hk hq))
 go_ret2
 rw [HD.out]
 exact ⟨.inl ⟨rfl, rfl⟩, HN.out⟩
section
variable {w wr W2 : World} {p cap i i' b base k n : Nat} {A : Option Addr} {l : List Tk} {v : Value} {xs : List Value} {t : TypeId}
theorem nt_at (h : NAt w p A cap l i) (hn : NTo w p A cap l i' wr) (hi : i' < l.length) : NAt wr p A cap l i' := na_after h hn hi
theorem nt_up (h : NTo w p A cap l i wr) (hb : Below wr.heap.size wr W2) : NTo w p A cap l i W2 := ⟨(hb.block p (lt_of_block h.nt_box)).trans h.nt_box, h.nt_only.trans (Only.of_below hb)⟩
theorem nt_set (h : NTo w p A cap l i wr) (hp : p < w.heap.size) (hb : w.heap.size ≤ b) (j : Nat) (u : Value) : NTo w p A cap l i (wr.setCell ⟨b, j, none⟩ u) :=
 ⟨(Below.heap_setCell wr ⟨b, j, none⟩ u p (by show p ≠ b; omega)).trans h.nt_box, ⟨h.nt_only.os, h.nt_only.tape, h.nt_only.output, by have := h.nt_only.size; simp [World.setCell]; exact this, fun q hq h1 h2 => (Below.heap_setCell wr ⟨b, j, none⟩ u q (by show q ≠ b; omega)).trans (h.nt_only.block q hq h1 h2)⟩⟩
theorem nt_grown (h : NTo w p A cap l i wr) (hp : p < w.heap.size) (ho : wr.ownsRow base t k v n xs) (hb : w.heap.size ≤ base) (hg : wr.grownBy W2 v.ownBlock) : NTo w p A cap l i W2 := by
 have hlow : ∀ q, q < w.heap.size → some q ≠ v.ownBlock := fun q hq e => by have := (ho.lt q e.symm).1; omega
 exact ⟨(hg.block p (lt_of_block h.nt_box) (hlow p hp)).trans h.nt_box, ⟨hg.os.trans h.nt_only.os, hg.tape.trans h.nt_only.tape, hg.output.trans h.nt_only.output, Nat.le_trans h.nt_only.size hg.size, fun q hq h1 h2 => (hg.block q (Nat.lt_of_lt_of_le hq h.nt_only.size) (hlow q hq)).trans (h.nt_only.block q hq h1 h2)⟩⟩
theorem own_nt (ho : wr.ownsRow base t k v n xs) (hn : NTo wr p A cap l i W2) (hp : p < base) : W2.ownsRow base t k v n xs :=
 own_block ho (fun q hq => hn.nt_only.block q (ho.lt q hq).2 (by have := (ho.lt q hq).1; omega) (by have := (ho.lt q hq).1; omega))
end
theorem box_up (w : World) (o : Obj) : Below w.heap.size w (w.alloc o) := (Below.refl _ w).alloc (Nat.le_refl _) _
/-- The barred numbers so far, behind the first. -/
structure BSt (l : List Tk) (y0 : Ps) (ns : List Int) (j f : Nat) : Prop where
 bs_all : numsP l (l.length + 1) y0 = (ns ++ (numsP l f ⟨j, false⟩).1, (numsP l f ⟨j, false⟩).2)
 bs_cnt : ns.length + f = l.length + 1
 bs_go : l.length < f + j
theorem bst_end {l : List Tk} {y0 : Ps} {ns : List Int} {j f : Nat} (h : BSt l y0 ns j f) (hk : isP l ⟨j, false⟩ [44] = false) : numsP l (l.length + 1) y0 = (ns, ⟨j, false⟩) := by
 rw [h.bs_all]
 cases f with
 | zero => simp [numsP]
 | succ f => simp [numsP, hk]
theorem nums_stays {l : List Tk} {y : Ps} (h : y.at_bad = true) (f : Nat) : numsP l f y = ([], y) := by
 cases f with
 | zero => rfl
 | succ f => rw [numsP, isP_bad h, if_neg (by decide)]
theorem bst_on {l : List Tk} {y0 : Ps} {ns : List Int} {j f : Nat} (h : BSt l y0 ns j f) (hj : j < l.length) (hk : isP l ⟨j, false⟩ [44] = true) :
 (∀ hb : (numP l ⟨j + 1, false⟩).2.at_bad = true, (numsP l (l.length + 1) y0).2 = (numP l ⟨j + 1, false⟩).2) ∧ (∀ hb : (numP l ⟨j + 1, false⟩).2.at_bad = false, BSt l y0 (ns ++ [((numP l ⟨j + 1, false⟩).1 : Int)]) (j + 1 + 1) (f - 1) ∧ 0 < f) := by
 obtain ⟨g, rfl⟩ : ∃ g, f = g + 1 := ⟨f - 1, by have := h.bs_go; omega⟩
 have e : numsP l (g + 1) ⟨j, false⟩ = (((numP l ⟨j + 1, false⟩).1 : Int) :: (numsP l g (numP l ⟨j + 1, false⟩).2).1, (numsP l g (numP l ⟨j + 1, false⟩).2).2) := by
  rw [numsP, hk, if_pos rfl]
  rfl
 refine ⟨fun hb => ?_, fun hb => ⟨⟨?_, ?_, ?_⟩, Nat.succ_pos _⟩⟩
 ·rw [h.bs_all, e, nums_stays hb]
 ·rw [h.bs_all, e, num_go hb, List.append_assoc]
  rfl
 ·have := h.bs_cnt
  rw [List.length_append]
  show ns.length + 1 + (g + 1 - 1) = l.length + 1
  omega
 ·have := h.bs_go
  omega
set_option maxHeartbeats 8000000 in
theorem nbarred_any {w : World} {p cap i : Nat} {A : Option Addr} {l : List Tk} (h : NAt w p A cap l i) (hl : l.length ≤ 100000) (hg : GoodT l) (hE : EndOk l) :
 Calls Tryz.prog 186 #[.pointer (some ⟨p, 0, none⟩)] w fun e w' => ∃ v, Ends (barsP l ⟨i, false⟩).2 v e ∧ NTo w p A cap l (barsP l ⟨i, false⟩).2.at_i w' ∧ ((barsP l ⟨i, false⟩).2.at_bad = false → w'.ownsRow w.heap.size 3 1 v (barsP l ⟨i, false⟩).1.length (zs (barsP l ⟨i, false⟩).1)) := by
 have H := Lib.hid h
 have HL := Lib.hid hl
 have HG := Lib.hid hg
 have HE := Lib.hid hE
 have HP := Lib.hid (lt_of_block h.na_box)
 have HC := Lib.hid (nnumber_any h hl)
 have HD : Hid (barsP l ⟨i, false⟩ = (((numP l ⟨i, false⟩).1 : Int) :: (numsP l (l.length + 1) (numP l ⟨i, false⟩).2).1, needP l (numsP l (l.length + 1) (numP l ⟨i, false⟩).2).2 [59])) := Lib.hid rfl
 obtain ⟨r, hr⟩ : ∃ r, r = barsP l ⟨i, false⟩ := ⟨_, rfl⟩
 rw [← hr] at HD ⊢
 have K0 := True.intro
 clear h hl hg hE hr
 go_enter Tryz.func186, Tryz.ntmps186
 go_wp2_with (first
  | (clear K0; go_at_call 244; refine HC.out.mono ?_; rintro e w1 ⟨⟨hb, rfl⟩ | ⟨hb, rfl⟩, hn⟩
     case inr => (go_wp2; have e : r.2 = (numP l ⟨i, false⟩).2 := (by rw [HD.out]; dsimp only; rw [nums_stays hb, need_stays hb]); exact ⟨rfl, .nilFunc, ends_bad hb e, by rw [e]; exact hn, fun h => by rw [e, hb] at h; cases h⟩)
     rw [num_go hb] at hn
     have HX := Lib.hid (num_go hb)
     have HI := Lib.hid (num_ok_in HE.out H.out.na_in hb)
     have HN := Lib.hid hn
     clear hn hb HC))
 obtain ⟨n0, hn0⟩ : ∃ n0, n0 = (numP l ⟨i, false⟩).1 := ⟨_, rfl⟩
 rw [HX.out, ← hn0] at HD
 rw [← hn0]
 clear hn0
 have HB0 : Hid (BSt l ⟨i + 1, false⟩ [] (i + 1) (l.length + 1)) := Lib.hid ⟨rfl, by simp, by omega⟩
 have HO : Hid ((w1.alloc (.cells #[.int .i64 (n0 : Int)] 3)).ownsRow w.heap.size 3 1 (.slice (some ⟨w1.heap.size, 0, none⟩) 1 1) 1 (zs [(n0 : Int)])) := Lib.hid ⟨rfl, .inr ⟨_, 1, _, rfl, HN.out.nt_only.size, heap_alloc_new w1 _, Nat.le_refl _, by decide, rfl, rfl⟩⟩
 replace HN := Lib.hid (nt_up HN.out ((Below.refl _ w1).alloc (Nat.le_refl _) (.cells #[.int .i64 (n0 : Int)] 3)))
 go_loopg [3] (l.length + 1) (fun gz v3 wr => ∃ (ns : List Int) (j : Nat), BSt l ⟨i + 1, false⟩ ns j gz ∧ NTo w p A cap l j wr ∧ j < l.length ∧ wr.ownsRow w.heap.size 3 1 v3 (ns.length + 1) (zs ((n0 : Int) :: ns)))
 case atStart => exact ⟨[], i + 1, HB0.out, HN.out, HI.out, HO.out⟩
 case round =>
  clear HB0 HN HI HO
  obtain ⟨ns, j, hbst, hn, hj, ho⟩ := hrel
  obtain ⟨-, A5, c5, rfl, -⟩ := zs_own ho
  have HN := Lib.hid hn
  have HO := Lib.hid ho
  have HJ := Lib.hid hj
  have HB := Lib.hid hbst
  have HA := Lib.hid (nt_at H.out hn hj)
  have K0 := True.intro
  obtain ⟨g0, hg0⟩ : ∃ g0, g0 = gk := ⟨_, rfl⟩
  subst hg0
  clear hbst hn hj ho
  cases hk : isK l j 4 [44] with
  | true =>
    have HK := Lib.hid hk
    have HT := Lib.hid (bst_on HB.out HJ.out (by rw [← isK_mark HG.out HJ.out (by decide)]; exact hk))
    clear hk
    go_wp2_with (first
     | (clear K0; go_at_call 184; refine (nmark_any HA.out HL.out [44] ⟨#[44]⟩ rfl).mono ?_; rintro e w2 ⟨rfl, hn⟩; rw [HK.out]; rw [nxt_yes HK.out] at hn; replace HI := Lib.hid (isK_in HE.out HJ.out (by decide) HK.out); replace HO := Lib.hid (own_nt HO.out hn HP.out); replace HA := Lib.hid (na_after HA.out hn HI.out); replace HN := Lib.hid (nt_trans HN.out hn); have K1 := True.intro; clear hn)
     | (clear K1; go_at_call 244; refine (nnumber_any HA.out HL.out).mono ?_; rintro e w3 ⟨⟨hb, rfl⟩ | ⟨hb, rfl⟩, hn⟩
        case inr => (go_wp2; have e : r.2 = (numP l ⟨j + 1, false⟩).2 := (by rw [HD.out]; dsimp only; rw [HT.out.1 hb, need_stays hb]); exact ⟨rfl, .nilFunc, ends_bad hb e, by rw [e]; exact nt_trans HN.out hn, fun h => by rw [e, hb] at h; cases h⟩)
        rw [num_go hb] at hn
        replace HI := Lib.hid (num_ok_in HE.out HI.out hb)
        replace HT := Lib.hid (HT.out.2 hb)
        replace HO := Lib.hid (own_nt HO.out hn HP.out)
        replace HN := Lib.hid (nt_trans HN.out hn)
        obtain ⟨x, hx⟩ : ∃ x, x = (numP l ⟨j + 1, false⟩).1 := ⟨_, rfl⟩
        rw [← hx] at HT ⊢
        clear hn hb hx)
     | (at_builtin; refine wpList_append_zs rfl _ _ rfl w.heap.size _ _ _ rfl (own_below HO.out (box_up w3 (.cells #[.int .i64 (x : Int)] 3))) _ 1 1 [(x : Int)] rfl rfl (sl_int1 w3 _ _) (by have h1 := HT.out.1.bs_cnt; have h2 := HL.out; rw [List.length_append] at h1; show ns.length + 1 + 1 ≤ 1000000; omega) (Nat.le_trans HN.out.nt_only.size (box_up w3 _).size) ?_; rintro v4 w4 ho hg; have HO4 := Lib.hid ho; have HN4 := Lib.hid (nt_grown (nt_up HN.out (box_up w3 (.cells #[.int .i64 (x : Int)] 3))) HP.out (own_below HO.out (box_up w3 (.cells #[.int .i64 (x : Int)] 3))) (Nat.le_refl _) hg); clear ho hg))
    go_roundg (g0 - 1)
    case measure => have := HT.out.2; omega
    case rel => exact ⟨ns ++ [(x : Int)], j + 1 + 1, HT.out.1, HN4.out, HI.out, by have := HO4.out; rw [List.length_append]; exact this⟩
  | false =>
    have HK := Lib.hid hk
    have HT := Lib.hid (bst_end HB.out (by rw [← isK_mark HG.out HJ.out (by decide)]; exact hk))
    rw [HT.out] at HD
    clear hk
    go_wp2_with (first
     | (clear K0; go_at_call 184; refine (nmark_any HA.out HL.out [44] ⟨#[44]⟩ rfl).mono ?_; rintro e w2 ⟨rfl, hn⟩; rw [HK.out]; rw [nxt_no HK.out] at hn; replace HO := Lib.hid (own_nt HO.out hn HP.out); replace HA := Lib.hid (na_after HA.out hn HJ.out); replace HN := Lib.hid (nt_trans HN.out hn); have K1 := True.intro; clear hn)
     | (clear K1; go_at_call 184; refine (nmark_any HA.out HL.out [59] ⟨#[59]⟩ rfl).mono ?_; rintro e w3 ⟨rfl, hn⟩
        cases hq : isK l j 4 [59]
        case false => (rw [need_no HG.out HJ.out (by decide) hq] at HD; rw [nxt_no hq] at hn; go_wp2_with (go_at_call 111; refine (nmust_any false _).mono ?_; rintro e w3 ⟨rfl, rfl⟩); exact ⟨rfl, .nilFunc, ends_bad rfl (by rw [HD.out]), by rw [HD.out]; exact nt_trans HN.out hn, fun h => by rw [HD.out] at h; cases h⟩)
        rw [need_yes HG.out HJ.out (by decide) hq] at HD
        rw [nxt_yes hq] at hn
        replace HO := Lib.hid (own_nt HO.out hn HP.out)
        replace HN := Lib.hid (nt_trans HN.out hn)
        clear hn hq)
     | (go_at_call 111; refine (nmust_any true _).mono ?_; rintro e w4 ⟨rfl, rfl⟩))
    go_ret
    rw [HD.out]
    exact ⟨_, .inl ⟨rfl, rfl⟩, HN.out, fun _ => HO.out⟩
end Go.Proofs.YtcjjphioeneiiaaGreatDoor

/- The landed layer 18: a field is read. Conditions: those that each theorem names. -/
namespace Go.Proofs.YtcjjphioeneiiaaGreatDoor
open Go.RowKit
set_option linter.unusedVariables false
set_option maxRecDepth 100000

theorem isK_two {l : List Tk} {i : Nat} {s t : List UInt8} (h : isK l i 1 s = true) (hn : s ≠ t) : isK l i 1 t = false := by
 unfold isK at h ⊢
 rw [Bool.and_eq_true, decide_eq_true_iff, decide_eq_true_iff] at h
 rw [h.2, decide_eq_false hn, Bool.and_false]
/-- What a field is, from behind its words on. -/
def fldP (l : List Tk) (k : Nat) (one : List UInt8) (rep loose : Bool) : Fd × Ps := (⟨(nbP l (nameP l ⟨k, false⟩).2).1.1, ((nbP l (nameP l ⟨k, false⟩).2).1.2 : Int), 0, (nameP l ⟨k, false⟩).1, rep, loose, one⟩, (nbP l (nameP l ⟨k, false⟩).2).2)
section
variable {l : List Tk} {i j k : Nat} {one : List UInt8}
theorem field_words (hg : GoodT l) (hj : j < l.length) (ho : oneP l ⟨i, false⟩ = (one, ⟨j, false⟩)) :
 fieldP l ⟨i, false⟩ = fldP l (if (isK l j 1 looseW || isK l j 1 repW) = true then j + 1 else j) one (isK l j 1 looseW || isK l j 1 repW) (isK l j 1 looseW) := by
 have e1 : repP l ⟨j, false⟩ = isK l j 1 repW := (isK_word hg hj (by decide)).symm
 have e2 : looP l ⟨j, false⟩ = isK l j 1 looseW := by
  unfold looP
  rw [← isK_word hg hj (by decide), ← isK_word hg hj (by decide)]
  cases h : isK l j 1 repW with
  | false => rfl
  | true => rw [isK_two h (by decide)]; rfl
 unfold fieldP waysP
 rw [ho]
 dsimp only
 rw [e1, e2, Bool.or_comm]
 split <;> rfl
theorem one_bad (hg : GoodT l) (hi : i < l.length) (h : isK l i 1 oneofW = true) (hb : (nameP l ⟨i + 1, false⟩).2.at_bad = true) : (fieldP l ⟨i, false⟩).2 = (nameP l ⟨i + 1, false⟩).2 := by
 have e : (oneP l ⟨i, false⟩).2 = (nameP l ⟨i + 1, false⟩).2 := by
  unfold oneP
  rw [← isK_word hg hi (by decide), h, if_pos rfl]
  rfl
 have eb : (oneP l ⟨i, false⟩).2.at_bad = true := by rw [e]; exact hb
 have e3 : waysP l (oneP l ⟨i, false⟩).2 = (oneP l ⟨i, false⟩).2 := by
  unfold waysP repP looP
  rw [isP_bad eb, isP_bad eb]
  rfl
 unfold fieldP
 dsimp only
 rw [e3]
 unfold restP
 dsimp only
 rw [name_stays eb, name_stays eb, need_stays eb, num_stays eb, need_stays eb, e]
theorem one_yes (hg : GoodT l) (hi : i < l.length) (h : isK l i 1 oneofW = true) (hb : (nameP l ⟨i + 1, false⟩).2.at_bad = false) : oneP l ⟨i, false⟩ = ((nameP l ⟨i + 1, false⟩).1, ⟨i + 1 + 1, false⟩) := by
 unfold oneP
 rw [← isK_word hg hi (by decide), h, if_pos rfl, ← name_go hb]
 rfl
theorem one_no (hg : GoodT l) (hi : i < l.length) (h : isK l i 1 oneofW = false) : oneP l ⟨i, false⟩ = ([], ⟨i, false⟩) := by
 unfold oneP
 rw [← isK_word hg hi (by decide), h, if_neg (by decide)]
theorem fld_bad {rep loose : Bool} (hb : (nameP l ⟨k, false⟩).2.at_bad = true) : (fldP l k one rep loose).2 = (nameP l ⟨k, false⟩).2 := by
 unfold fldP
 dsimp only
 have e := name_stays (l := l) hb
 rw [nb_bad1 (by rw [e]; exact hb), e]
end
def nfx (nm : ByteArray) (num : Int) (ref : ByteArray) (rep loose : Bool) (one : ByteArray) : Array Value := #[.string nm, .int .i64 num, .int .i64 0, .string ref, .bool rep, .bool loose, .string one]
def nfz : Obj := .cells (nfx ⟨#[]⟩ 0 ⟨#[]⟩ false false ⟨#[]⟩) 70
/-- A field that is being read: its box, the answer's, the reader. -/
structure NFx (w wr : World) (p : Nat) (A : Option Addr) (cap : Nat) (l : List Tk) (j : Nat) (cs : Array Value) : Prop where
 fb_n : NTo w p A cap l j wr
 fb_j : j < l.length
 fb_f : wr.heap[w.heap.size + 1]? = some (.cells cs 70 (0, 0))
 fb_x : wr.heap[w.heap.size]? = some (.cells (nfx ⟨#[]⟩ 0 ⟨#[]⟩ false false ⟨#[]⟩) 70 (0, 0))
 fb_h : NAt w p A cap l j → True
 fb_w : p < w.heap.size
section
variable {w wr w' : World} {p cap j j' b : Nat} {A : Option Addr} {l : List Tk} {cs : Array Value}
theorem fb_call (h : NFx w wr p A cap l j cs) (hn : NTo wr p A cap l j' w') (hj : j' < l.length) : NFx w w' p A cap l j' cs :=
 ⟨nt_trans h.fb_n hn, hj, nt_keep hn h.fb_f (by have := h.fb_w; omega), nt_keep hn h.fb_x (by have := h.fb_w; omega), fun _ => trivial, h.fb_w⟩
theorem fb_set (h : NFx w wr p A cap l j cs) (k : Nat) (u : Value) {ds : Array Value} (hd : cs.setIfInBounds k u = ds) : NFx w (wr.setCell ⟨w.heap.size + 1, k, none⟩ u) p A cap l j ds :=
 ⟨nt_set h.fb_n h.fb_w (Nat.le_succ _) _ _, h.fb_j, by rw [← hd]; exact obj_set h.fb_f k u, (Below.heap_setCell _ _ _ _ (by show ¬ w.heap.size = w.heap.size + 1; omega)).trans h.fb_x, fun _ => trivial, h.fb_w⟩
theorem nfx_cells {b : Nat} {nm ref one : ByteArray} {num : Int} {rep loose : Bool} {t : TypeId} (h : w.heap[b]? = some (.cells (nfx nm num ref rep loose one) t (0, 0))) : w.cell? ⟨b, 0, none⟩ = some (.string nm) ∧ w.cell? ⟨b, 1, none⟩ = some (.int .i64 num) ∧ w.cell? ⟨b, 2, none⟩ = some (.int .i64 0) ∧ w.cell? ⟨b, 3, none⟩ = some (.string ref) ∧ w.cell? ⟨b, 4, none⟩ = some (.bool rep) ∧ w.cell? ⟨b, 5, none⟩ = some (.bool loose) ∧ w.cell? ⟨b, 6, none⟩ = some (.string one) :=
 ⟨obj_cell h 0, obj_cell h 1, obj_cell h 2, obj_cell h 3, obj_cell h 4, obj_cell h 5, obj_cell h 6⟩
theorem fb_so {so : ByteArray} (h : NFx w wr p A cap l j (nfx ⟨#[]⟩ 0 ⟨#[]⟩ false false ⟨#[]⟩)) (e : so = strOf []) : NFx w wr p A cap l j (nfx ⟨#[]⟩ 0 ⟨#[]⟩ false false so) := by
 subst e
 exact h
end
set_option maxHeartbeats 16000000 in
theorem nfield_ok {w : World} {p cap i j : Nat} {A : Option Addr} {l : List Tk} {one : List UInt8} (h : NAt w p A cap l i) (hl : l.length ≤ 100000) (hg : GoodT l) (hE : EndOk l) (hj : j < l.length)
 (hw : (isK l i 1 oneofW = true ∧ (nameP l ⟨i + 1, false⟩).2.at_bad = false ∧ i + 1 + 1 = j ∧ (nameP l ⟨i + 1, false⟩).1 = one) ∨ (isK l i 1 oneofW = false ∧ i = j ∧ [] = one)) (ho : oneP l ⟨i, false⟩ = (one, ⟨j, false⟩)) :
 Calls Tryz.prog 187 #[.pointer (some ⟨p, 0, none⟩)] w fun e w' => Ends (fieldP l ⟨i, false⟩).2 (fdV (fieldP l ⟨i, false⟩).1) e ∧ NTo w p A cap l (fieldP l ⟨i, false⟩).2.at_i w' := by
 have HF : Hid (NFx w ((w.alloc nfz).alloc nfz) p A cap l i (nfx ⟨#[]⟩ 0 ⟨#[]⟩ false false ⟨#[]⟩)) := Lib.hid ⟨nt_up (nt_up (nt_refl h) (box_up w _)) (box_up _ _), h.na_in, (by have := heap_alloc_new (w.alloc nfz) nfz; rwa [World.size_alloc] at this), (box_up _ _).block _ (lt_of_block (heap_alloc_new w _)) |>.trans (heap_alloc_new w _), fun _ => trivial, lt_of_block h.na_box⟩
 have HR := Lib.hid (field_words hg hj ho)
 have H := Lib.hid h
 have HL := Lib.hid hl
 have HG := Lib.hid hg
 have HE := Lib.hid hE
 have HJ := Lib.hid hj
 have K0 := True.intro
 have hw2 : ∃ b2 b3, isK l j 1 looseW = b2 ∧ isK l j 1 repW = b3 ∧ (b2 = true → b3 = false) := ⟨_, _, rfl, rfl, fun e => isK_two e (by decide)⟩
 obtain ⟨b2, b3, h2, h3, h4⟩ := hw2
 rw [h2, h3] at HR
 obtain ⟨k, hk⟩ : ∃ k, k = if (b2 || b3) = true then j + 1 else j := ⟨_, rfl⟩
 rw [← hk] at HR
 have HKK : Hid ((b2 = true → j + 1 = k) ∧ (b2 = false → b3 = true → j + 1 = k) ∧ (b2 = false → b3 = false → j = k)) := Lib.hid ⟨fun e => by rw [hk, e]; rfl, fun e e2 => by rw [hk, e, e2]; rfl, fun e e2 => by rw [hk, e, e2]; rfl⟩
 have HK9 : Hid (k < l.length) := Lib.hid (by
  cases b2
  ·cases b3
   ·rw [hk]; exact hj
   ·rw [hk]; exact isK_in hE hj (by decide) h3
  ·rw [hk]; exact isK_in hE hj (by decide) h2)
 have H2 := Lib.hid h2
 have H3 := Lib.hid h3
 obtain ⟨so, hso⟩ : ∃ so, so = strOf one := ⟨_, rfl⟩
 have HSO := Lib.hid hso
 obtain ⟨r, hr⟩ : ∃ r, r = fieldP l ⟨i, false⟩ := ⟨_, rfl⟩
 rw [← hr] at HR ⊢
 clear h hl hg hE hj ho h2 h3 hr hk
 rcases hw with ⟨k1, k2, rfl, rfl⟩ | ⟨k1, rfl, rfl⟩ <;> cases b2 <;> cases b3 <;> (try exact absurd (h4 rfl) (by decide))
 all_goals
  have HK1 := Lib.hid k1
  try have HK2 := Lib.hid k2
  try clear k2
  try rw [← hso]
  clear k1 h4 hso
  go_enter Tryz.func187, Tryz.ntmps187
  go_wp2_with (first
   | (clear K0; go_at_call 109; refine (nword_any (nt_at H.out HF.out.fb_n HF.out.fb_j) HL.out oneofW ⟨oneofW.toArray⟩ rfl).mono ?_; rintro e w1 ⟨rfl, hn⟩
      rw [HK1.out]
      first
       | (rw [nxt_yes HK1.out] at hn; replace HF := Lib.hid (fb_call HF.out hn (isK_in HE.out H.out.na_in (by decide) HK1.out)); have K1 := True.intro)
       | (rw [nxt_no HK1.out] at hn; replace HF := Lib.hid (fb_so (fb_call HF.out hn H.out.na_in) HSO.out); have K2 := True.intro)
      clear hn)
   | (clear K1; go_at_call 183; refine (nname_any (nt_at H.out HF.out.fb_n HF.out.fb_j) HL.out).mono ?_; rintro e w2 ⟨⟨hb, rfl⟩ | ⟨hb, rfl⟩, hn⟩
      case inr => exact absurd (HK2.out.symm.trans hb) (by decide)
      rw [name_go hb] at hn
      replace HF := Lib.hid (fb_call HF.out hn HJ.out)
      have c6 : w2.cell? ⟨w.heap.size + 1, 6, none⟩ = some (.string ⟨#[]⟩) := obj_cell HF.out.fb_f 6
      have f6 := obj_free HF.out.fb_f 6
      rw [← HSO.out]
      replace HF := Lib.hid (fb_set HF.out 6 (.string so) (ds := nfx ⟨#[]⟩ 0 ⟨#[]⟩ false false so) rfl)
      have K2 := True.intro
      clear hn hb)
   | (clear K2; go_at_call 109; refine (nword_any (nt_at H.out HF.out.fb_n HF.out.fb_j) HL.out looseW ⟨looseW.toArray⟩ rfl).mono ?_; rintro e w3 ⟨rfl, hn⟩
      rw [H2.out]
      first
       | (rw [nxt_yes H2.out, HKK.out.1 (by trivial)] at hn; replace HF := Lib.hid (fb_call HF.out hn HK9.out); have c5 : w3.cell? ⟨w.heap.size + 1, 5, none⟩ = some (.bool false) := obj_cell HF.out.fb_f 5; have f5 := obj_free HF.out.fb_f 5; have c4 : w3.cell? ⟨w.heap.size + 1, 4, none⟩ = some (.bool false) := obj_cell HF.out.fb_f 4; have f4 := obj_free HF.out.fb_f 4; replace HF := Lib.hid (fb_set (fb_set HF.out 5 (.bool true) rfl) 4 (.bool true) (ds := nfx ⟨#[]⟩ 0 ⟨#[]⟩ true true so) rfl); have K4 := True.intro)
       | (rw [nxt_no H2.out] at hn; replace HF := Lib.hid (fb_call HF.out hn HJ.out); have c5 : w3.cell? ⟨w.heap.size + 1, 5, none⟩ = some (.bool false) := obj_cell HF.out.fb_f 5; have f5 := obj_free HF.out.fb_f 5; replace HF := Lib.hid (fb_set HF.out 5 (.bool false) (ds := nfx ⟨#[]⟩ 0 ⟨#[]⟩ false false so) rfl); have K3 := True.intro)
      clear hn)
   | (clear K3; go_at_call 109; refine (nword_any (nt_at H.out HF.out.fb_n HF.out.fb_j) HL.out repW ⟨repW.toArray⟩ rfl).mono ?_; rintro e w4 ⟨rfl, hn⟩
      rw [H3.out]
      first
       | rw [nxt_yes H3.out, HKK.out.2.1 (by trivial) (by trivial)] at hn
       | rw [nxt_no H3.out, HKK.out.2.2 (by trivial) (by trivial)] at hn
      replace HF := Lib.hid (fb_call HF.out hn HK9.out)
      have c4 : w4.cell? ⟨w.heap.size + 1, 4, none⟩ = some (.bool false) := obj_cell HF.out.fb_f 4
      have f4 := obj_free HF.out.fb_f 4
      first
       | (have z : Hid (isK l _ 1 repW = true) := H3; replace HF := Lib.hid (fb_set HF.out 4 (.bool true) (ds := nfx ⟨#[]⟩ 0 ⟨#[]⟩ true false so) rfl); clear z)
       | replace HF := Lib.hid (fb_set HF.out 4 (.bool false) (ds := nfx ⟨#[]⟩ 0 ⟨#[]⟩ false false so) rfl)
      have K4 := True.intro
      clear hn)
   | (clear K4; go_at_call 183; refine (nname_any (nt_at H.out HF.out.fb_n HF.out.fb_j) HL.out).mono ?_; rintro e w5 ⟨⟨hb, rfl⟩ | ⟨hb, rfl⟩, hn⟩
      case inr => (go_wp2; have e := HR.out; exact ⟨rfl, by rw [e]; exact ends_bad hb (fld_bad hb), by rw [e, fld_bad hb]; exact nt_trans HF.out.fb_n hn⟩)
      have hx := name_go hb
      rw [hx] at hn
      replace HF := Lib.hid (fb_call HF.out hn (name_ok_in HE.out HF.out.fb_j hb))
      have c3 : w5.cell? ⟨w.heap.size + 1, 3, none⟩ = some (.string ⟨#[]⟩) := obj_cell HF.out.fb_f 3
      have f3 := obj_free HF.out.fb_f 3
      obtain ⟨sr, hsr⟩ : ∃ sr, sr = strOf (nameP l ⟨k, false⟩).1 := ⟨_, rfl⟩
      rw [← hsr]
      first
       | (have z : Hid (isK l _ 1 looseW = true) := H2; replace HF := Lib.hid (fb_set HF.out 3 (.string sr) (ds := nfx ⟨#[]⟩ 0 sr true true so) rfl); clear z)
       | (have z : Hid (isK l _ 1 repW = true) := H3; replace HF := Lib.hid (fb_set HF.out 3 (.string sr) (ds := nfx ⟨#[]⟩ 0 sr true false so) rfl); clear z)
       | (replace HF := Lib.hid (fb_set HF.out 3 (.string sr) (ds := nfx ⟨#[]⟩ 0 sr false false so) rfl))
      have HX := Lib.hid hx
      have HSR := Lib.hid hsr
      have K5 := True.intro
      clear hn hb hx hsr)
   | (clear K5; go_at_call 185; refine (nnumbered_any (nt_at H.out HF.out.fb_n HF.out.fb_j) HL.out HG.out HE.out).mono ?_; rintro e w6 ⟨⟨hb, rfl⟩ | ⟨hb, rfl⟩, hn⟩
      case inr => (go_wp2; have e : r = _ := HR.out; unfold fldP at e; rw [HX.out] at e; exact ⟨rfl, by rw [e]; exact .inr ⟨hb, rfl⟩, by rw [e]; exact nt_trans HF.out.fb_n hn⟩)
      obtain ⟨⟨⟨nm, nn⟩, y⟩, hy⟩ : ∃ z, z = nbP l ⟨k + 1, false⟩ := ⟨_, rfl⟩
      rw [← hy] at hb hn ⊢
      dsimp only at hb hn ⊢
      obtain ⟨sm, hsm⟩ : ∃ sm, sm = strOf nm := ⟨_, rfl⟩
      rw [← hsm]
      have hf := nt_keep hn HF.out.fb_f (by have := HF.out.fb_w; omega)
      have hx := nt_keep hn HF.out.fb_x (by have := HF.out.fb_w; omega)
      obtain ⟨c0, c1, c2, c3, c4, c5, c6⟩ := nfx_cells hf
      have f0 := obj_free hf 0
      have f1 := obj_free hf 1
      obtain ⟨z0, z1, z2, z3, z4, z5, z6⟩ := nfx_cells hx
      have y0 := obj_free hx
      have y1 := y0 1; have y2 := y0 2; have y3 := y0 3; have y4 := y0 4; have y5 := y0 5; have y6 := y0 6; replace y0 := y0 0
      have HEND : Hid (Ends r.2 (fdV r.1) (.returned (.agg (nfx sm (nn : Int) sr _ _ so))) ∧ NTo w p A cap l r.2.at_i w6) := Lib.hid (by have e : r = _ := HR.out; unfold fldP at e; rw [HX.out, ← hy] at e; rw [e]; exact ⟨.inl ⟨hb, by rw [hsm, HSR.out, HSO.out]; rfl⟩, nt_trans HF.out.fb_n hn⟩)
      have HY := Lib.hid hx
      have HW := Lib.hid HF.out.fb_w
      clear hb hn hf hx hy HF))
  refine bodyPost_ret (v := .agg (nfx sm (nn : Int) sr _ _ so)) ?_ rfl ⟨HEND.out.1, ?_⟩
  ·have hres : Tryz.f187.results = #[.cell 2 70] := by kernel_rfl
   simp only [results, hres]
   go_simp
   rfl
  ·repeat' (first | with_reducible exact HEND.out.2 | refine nt_set ?_ HW.out (by first | exact Nat.le_refl _ | exact Nat.le_succ _) _ _)
set_option maxHeartbeats 8000000 in
theorem nfield_any {w : World} {p cap i : Nat} {A : Option Addr} {l : List Tk} (h : NAt w p A cap l i) (hl : l.length ≤ 100000) (hg : GoodT l) (hE : EndOk l) :
 Calls Tryz.prog 187 #[.pointer (some ⟨p, 0, none⟩)] w fun e w' => Ends (fieldP l ⟨i, false⟩).2 (fdV (fieldP l ⟨i, false⟩).1) e ∧ NTo w p A cap l (fieldP l ⟨i, false⟩).2.at_i w' := by
 cases hk : isK l i 1 oneofW with
 | false => exact nfield_ok h hl hg hE h.na_in (.inr ⟨hk, rfl, rfl⟩) (one_no hg h.na_in hk)
 | true =>
   have hi := isK_in hE h.na_in (by decide) hk
   cases hb : (nameP l ⟨i + 1, false⟩).2.at_bad with
   | false => exact nfield_ok h hl hg hE (name_ok_in hE hi hb) (.inl ⟨hk, hb, rfl, rfl⟩) (one_yes hg h.na_in hk hb)
   | true =>
     have HD := Lib.hid (one_bad hg h.na_in hk hb)
     have HN := Lib.hid (nt_up (nt_up (nt_refl h) (box_up w nfz)) (box_up _ nfz))
     have H := Lib.hid h
     have HL := Lib.hid hl
     have HK := Lib.hid hk
     have HI := Lib.hid hi
     have HB := Lib.hid hb
     obtain ⟨r, hr⟩ : ∃ r, r = fieldP l ⟨i, false⟩ := ⟨_, rfl⟩
     rw [← hr] at HD ⊢
     clear h hl hg hE hk hi hb hr
     go_enter Tryz.func187, Tryz.ntmps187
     go_wp2_with (first
      | (go_at_call 109; refine (nword_any (nt_at H.out HN.out H.out.na_in) HL.out oneofW ⟨oneofW.toArray⟩ rfl).mono ?_; rintro e w1 ⟨rfl, hn⟩
         rw [HK.out]
         rw [nxt_yes HK.out] at hn
         replace HN := Lib.hid (nt_trans HN.out hn)
         clear hn)
      | (go_at_call 183; refine (nname_any (nt_at H.out HN.out HI.out) HL.out).mono ?_; rintro e w2 ⟨⟨hb, rfl⟩ | ⟨hb, rfl⟩, hn⟩
         case inl => exact absurd (hb.symm.trans HB.out) (by decide)
         replace HN := Lib.hid (nt_trans HN.out hn)
         clear hn hb))
     exact ⟨rfl, by rw [HD.out]; exact .inr ⟨HB.out, rfl⟩, by rw [HD.out]; exact HN.out⟩
end Go.Proofs.YtcjjphioeneiiaaGreatDoor

/- The document's layer 18: where a name is to stand. Conditions: those that each theorem names. -/
namespace Go.Proofs.YtcjjphioeneiiaaGreatDoor
open Go.RowKit
set_option linter.unusedVariables false
set_option maxRecDepth 100000

theorem ahead_tot : ∀ a t : List UInt8, (!ahead a t && !(a == t)) = ahead t a
 | [], [] => rfl
 | [], _ :: _ => rfl
 | _ :: _, [] => rfl
 | a :: r, b :: q => by
   have ih := ahead_tot r q
   by_cases h1 : a.toNat < b.toNat
   ·have e1 : ahead (a :: r) (b :: q) = true := by rw [ahead, if_pos h1]
    have e2 : ahead (b :: q) (a :: r) = false := by rw [ahead, if_neg (by omega), if_pos h1]
    rw [e1, e2]; rfl
   ·by_cases h2 : b.toNat < a.toNat
    ·have e1 : ahead (a :: r) (b :: q) = false := by rw [ahead, if_neg h1, if_pos h2]
     have e2 : ahead (b :: q) (a :: r) = true := by rw [ahead, if_pos h2]
     have hne : (a :: r == b :: q) = false := by
      rw [beq_eq_false_iff_ne]
      intro e
      injection e with e _
      subst e
      omega
     rw [e1, e2, hne]; rfl
    ·have hab : a = b := UInt8.toNat_inj.mp (by omega)
     subst hab
     have e1 : ahead (a :: r) (a :: q) = ahead r q := by rw [ahead, if_neg h1, if_neg h2]
     have e2 : ahead (a :: q) (a :: r) = ahead q r := by rw [ahead, if_neg h1, if_neg h2]
     have e3 : (a :: r == a :: q) = (r == q) := by simp
     rw [e1, e2, e3, ih]
end Go.Proofs.YtcjjphioeneiiaaGreatDoor

/- The document's layer 18: how its reader moves over parts; what the loop over parts holds. Conditions: those that each theorem names. -/
namespace Go.Proofs.YtcjjphioeneiiaaGreatDoor
open Go.RowKit
set_option linter.unusedVariables false

theorem vals_ge (l : List Tk) : ∀ (f : Nat) (x : Ps), x.at_i ≤ (valsP l f x).2.at_i
 | 0, x => Nat.le_refl _
 | f + 1, x => by
   rw [valsP]
   split
   ·exact Nat.le_refl _
   ·split
    ·exact Nat.le_succ _
    ·have h := vals_ge l f (needP l (numP l (needP l (nameP l x).2 [61])).2 [59])
     have h0 := sq_name_ge l x
     have h1 := sq_need_ge l (nameP l x).2 [61]
     have h2 := sq_num_ge l (needP l (nameP l x).2 [61])
     have h3 := sq_need_ge l (numP l (needP l (nameP l x).2 [61])).2 [59]
     dsimp only
     omega
theorem enum_ge (l : List Tk) (x : Ps) : x.at_i ≤ (enumP l x).2.at_i := by
 show _ ≤ (valsP l (l.length + 1) (needP l (nameP l x).2 [123])).2.at_i
 have h := vals_ge l (l.length + 1) (needP l (nameP l x).2 [123])
 have h0 := sq_name_ge l x
 have h1 := sq_need_ge l (nameP l x).2 [123]
 omega
theorem bars_ge (l : List Tk) (x : Ps) : x.at_i ≤ (barsP l x).2.at_i := by
 show _ ≤ (needP l (numsP l (l.length + 1) (numP l x).2).2 [59]).at_i
 have h1 := nums_len l (l.length + 1) (numP l x).2
 have h2 := sq_num_ge l x
 have h3 := sq_need_ge l (numsP l (l.length + 1) (numP l x).2).2 [59]
 omega
theorem lines_ge (l : List Tk) : ∀ (f : Nat) (x : Ps), x.at_i ≤ (linesP l f x).2.at_i
 | 0, x => Nat.le_refl _
 | f + 1, x => by
   rw [linesP]
   split
   ·exact Nat.le_refl _
   ·split
    ·exact Nat.le_succ _
    ·split
     ·have h := lines_ge l f (barsP l (nextP x)).2
      have h0 := bars_ge l (nextP x)
      have h1 : (nextP x).at_i = x.at_i + 1 := rfl
      dsimp only
      omega
     ·have h := lines_ge l f (fieldP l x).2
      have h0 := field_ge l x
      dsimp only
      omega
theorem msg_ge (l : List Tk) (x : Ps) : x.at_i ≤ (msgP l x).2.at_i := by
 show _ ≤ (linesP l (l.length + 1) (needP l (nameP l x).2 [123])).2.at_i
 have h := lines_ge l (l.length + 1) (needP l (nameP l x).2 [123])
 have h0 := sq_name_ge l x
 have h1 := sq_need_ge l (nameP l x).2 [123]
 omega
section
variable {l : List Tk}
theorem vals_in (hE : EndOk l) : ∀ (f : Nat) {x : Ps}, x.at_i < l.length → (valsP l f x).2.at_i < l.length
 | 0, x, h => h
 | f + 1, x, h => by
   rw [valsP]
   split
   ·exact h
   ·split
    ·rename_i e; exact isP_next hE h e
    ·exact vals_in hE f (need_in hE (num_in hE (need_in hE (name_in hE h) _)) _)
theorem enum_in (hE : EndOk l) {x : Ps} (h : x.at_i < l.length) : (enumP l x).2.at_i < l.length := vals_in hE _ (need_in hE (name_in hE h) _)
theorem nums_in (hE : EndOk l) : ∀ (f : Nat) {x : Ps}, x.at_i < l.length → (numsP l f x).2.at_i < l.length
 | 0, x, h => h
 | f + 1, x, h => by
   rw [numsP]
   split
   ·rename_i e; exact nums_in hE f (num_in hE (isP_next hE h e))
   ·exact h
theorem bars_in (hE : EndOk l) {x : Ps} (h : x.at_i < l.length) : (barsP l x).2.at_i < l.length := need_in hE (nums_in hE _ (num_in hE h)) _
theorem lines_in (hE : EndOk l) : ∀ (f : Nat) {x : Ps}, x.at_i < l.length → (linesP l f x).2.at_i < l.length
 | 0, x, h => h
 | f + 1, x, h => by
   rw [linesP]
   split
   ·exact h
   ·split
    ·rename_i e; exact isP_next hE h e
    ·split
     ·rename_i e; exact lines_in hE f (bars_in hE (isP_next hE h e))
     ·exact lines_in hE f (field_in hE h)
theorem msg_in (hE : EndOk l) {x : Ps} (h : x.at_i < l.length) : (msgP l x).2.at_i < l.length := lines_in hE _ (need_in hE (name_in hE h) _)
end

/-- Is there no part more? -/
def doneP (l : List Tk) (p : Ps) : Bool := p.at_bad || decide ((tokOf l p.at_i).kind = 0)
/-- Parts, after some rounds. -/
structure QSt (l : List Tk) (N : Nat) (y0 : Ps) (es : List En) (ms : List Ms) (y : Ps) (f : Nat) : Prop where
 qs_all : partsP l N y0 = ((es ++ (partsP l f y).1.1, ms ++ (partsP l f y).1.2), (partsP l f y).2)
 qs_cnt : es.length + ms.length + f ≤ N
 qs_go : y.at_bad = true ∨ l.length < f + y.at_i
theorem qst_start (l : List Tk) (N : Nat) (hN : l.length < N) (y0 : Ps) : QSt l N y0 [] [] y0 N := ⟨by simp, by simp, .inr (by omega)⟩
section
variable {l : List Tk} {N f : Nat} {y0 y : Ps} {es : List En} {ms : List Ms}
theorem qst_done (h : QSt l N y0 es ms y f) (hd : doneP l y = true) : partsP l N y0 = ((es, ms), y) := by
 rw [h.qs_all]
 have : partsP l f y = (([], []), y) := by
  cases f with
  | zero => rfl
  | succ f => unfold doneP at hd; rw [partsP, if_pos hd]
 rw [this, List.append_nil, List.append_nil]
theorem qst_pos (h : QSt l N y0 es ms y f) (hd : doneP l y = false) (hi : y.at_i < l.length) : ∃ g, f = g + 1 ∧ l.length < g + 1 + y.at_i := by
 have hg := h.qs_go
 unfold doneP at hd
 rw [Bool.or_eq_false_iff] at hd
 rw [hd.1] at hg
 simp at hg
 exact ⟨f - 1, by omega, by omega⟩
theorem qst_enum (h : QSt l N y0 es ms y f) (hd : doneP l y = false) (hi : y.at_i < l.length) (he : isP l y enumW = true) : 0 < f ∧ QSt l N y0 (es ++ [(enumP l (nextP y)).1]) ms (enumP l (nextP y)).2 (f - 1) := by
 obtain ⟨g, rfl, hg⟩ := qst_pos h hd hi
 have h1 := enum_ge l (nextP y)
 have h2 : (nextP y).at_i = y.at_i + 1 := rfl
 refine ⟨Nat.succ_pos _, ?_, ?_, .inr (by show l.length < (g + 1 - 1) + _; omega)⟩
 ·unfold doneP at hd
  rw [h.qs_all, partsP, if_neg (by rw [hd]; decide), if_pos he, List.append_assoc]
  rfl
 ·have := h.qs_cnt
  rw [List.length_append]
  show es.length + 1 + ms.length + (g + 1 - 1) ≤ N
  omega
theorem qst_msg (h : QSt l N y0 es ms y f) (hd : doneP l y = false) (hi : y.at_i < l.length) (he : isP l y enumW = false) (hm : isP l y msgW = true) : 0 < f ∧ QSt l N y0 es (ms ++ [(msgP l (nextP y)).1]) (msgP l (nextP y)).2 (f - 1) := by
 obtain ⟨g, rfl, hg⟩ := qst_pos h hd hi
 have h1 := msg_ge l (nextP y)
 have h2 : (nextP y).at_i = y.at_i + 1 := rfl
 refine ⟨Nat.succ_pos _, ?_, ?_, .inr (by show l.length < (g + 1 - 1) + _; omega)⟩
 ·unfold doneP at hd
  rw [h.qs_all, partsP, if_neg (by rw [hd]; decide), if_neg (by rw [he]; decide), if_pos hm, List.append_assoc]
  rfl
 ·have := h.qs_cnt
  rw [List.length_append]
  show es.length + (ms.length + 1) + (g + 1 - 1) ≤ N
  omega
theorem qst_wrong (h : QSt l N y0 es ms y f) (hd : doneP l y = false) (hi : y.at_i < l.length) (he : isP l y enumW = false) (hm : isP l y msgW = false) : 0 < f ∧ QSt l N y0 es ms (wrongP y) (f - 1) := by
 obtain ⟨g, rfl, hg⟩ := qst_pos h hd hi
 refine ⟨Nat.succ_pos _, ?_, by have := h.qs_cnt; show _ + (g + 1 - 1) ≤ N; omega, .inl rfl⟩
 unfold doneP at hd
 have hw : partsP l g (wrongP y) = (([], []), wrongP y) := by
  cases g with
  | zero => rfl
  | succ g => rw [partsP, if_pos (show ((wrongP y).at_bad || decide ((tokOf l (wrongP y).at_i).kind = 0)) = true from rfl)]
 show _ = ((es ++ (partsP l g (wrongP y)).1.1, ms ++ (partsP l g (wrongP y)).1.2), (partsP l g (wrongP y)).2)
 rw [h.qs_all, partsP, if_neg (by rw [hd]; decide), if_neg (by rw [he]; decide), if_neg (by rw [hm]; decide), hw]
end
end Go.Proofs.YtcjjphioeneiiaaGreatDoor

/- The landed layer 18: what its sorting compares by. Conditions: those that each theorem names. -/
namespace Go.Proofs.YtcjjphioeneiiaaGreatDoor
open Go.RowKit Go.Sort Go.Shelf
set_option linter.unusedVariables false
set_option maxRecDepth 100000

def cmpI (a b : Int) : Int := if a < b then -1 else if b < a then 1 else 0
def cmpS (a b : List UInt8) : Int := if ahead a b = true then -1 else if ahead b a = true then 1 else 0
theorem pnan_int (a : Int) (w : World) : Calls Tryz.prog 159 #[.int .i64 a] w fun e w' => e = .returned (.bool false) ∧ w' = w := by
 have h : (a != a) = false := bne_self_eq_false' _
 go_enter Tryz.func159, Tryz.ntmps159
 go_wp2
 go_ret
 exact ⟨rfl, rfl⟩
theorem pcmp_int (a b : Int) (w : World) : Calls Tryz.prog 94 #[.int .i64 a, .int .i64 b] w fun e w' => e = .returned (.int .i64 (cmpI a b)) ∧ w' = w := by
 have hw : (a < b ∧ cmpI a b = -1) ∨ (¬ a < b ∧ b < a ∧ cmpI a b = 1) ∨ (¬ a < b ∧ ¬ b < a ∧ cmpI a b = 0) := by
  unfold cmpI
  by_cases h1 : a < b
  ·exact .inl ⟨h1, if_pos h1⟩
  ·by_cases h2 : b < a
   ·exact .inr (.inl ⟨h1, h2, by rw [if_neg h1, if_pos h2]⟩)
   ·exact .inr (.inr ⟨h1, h2, by rw [if_neg h1, if_neg h2]⟩)
 obtain ⟨c, hc⟩ : ∃ c, c = cmpI a b := ⟨_, rfl⟩
 rw [← hc] at hw ⊢
 clear hc
 rcases hw with ⟨h1, rfl⟩ | ⟨h1, h2, rfl⟩ | ⟨h1, h2, rfl⟩
 all_goals
  first
   | have g1 : decide (a < b) = true := decide_eq_true h1
   | (have g1 : decide (a < b) = false := decide_eq_false h1
      first
       | have g2 : decide (a > b) = true := decide_eq_true h2
       | have g2 : decide (a > b) = false := decide_eq_false h2)
  go_enter Tryz.func94, Tryz.ntmps94
  go_wp2_with (go_at_call 159; refine (pnan_int _ _).mono ?_; rintro e w1 ⟨rfl, rfl⟩)
  go_ret
  exact ⟨rfl, rfl⟩
theorem pnan_str (a : ByteArray) (w : World) : Calls Tryz.prog 156 #[.string a] w fun e w' => e = .returned (.bool false) ∧ w' = w := by
 have h : (a.toList == a.toList) = true := beq_self_eq_true _
 go_enter Tryz.func156, Tryz.ntmps156
 go_wp2
 go_ret
 exact ⟨rfl, rfl⟩
theorem cmpS_ways (a b : List UInt8) : (ahead a b = true ∧ cmpS a b = -1) ∨ (ahead a b = false ∧ a ≠ b ∧ cmpS a b = 1) ∨ (ahead a b = false ∧ a = b ∧ cmpS a b = 0) := by
 unfold cmpS
 cases h : ahead a b with
 | true => exact .inl ⟨rfl, if_pos rfl⟩
 | false =>
   rw [if_neg (by decide)]
   by_cases he : a = b
   ·subst he
    exact .inr (.inr ⟨rfl, rfl, by rw [if_neg (by rw [h]; decide)]⟩)
   ·refine .inr (.inl ⟨rfl, he, if_pos ?_⟩)
    have := ahead_tot a b
    rw [h, beq_false_of_ne he] at this
    exact this.symm
theorem pcmp_str (a b : List UInt8) (w : World) : Calls Tryz.prog 89 #[.string (strOf a), .string (strOf b)] w fun e w' => e = .returned (.int .i64 (cmpS a b)) ∧ w' = w := by
 have hw := cmpS_ways a b
 have e1 : Op.bytesLess (strOf a).toList (strOf b).toList = ahead a b := by rw [less_ahead, str_list, str_list]
 have e3 : ((strOf a).toList == (strOf b).toList) = decide (a = b) := strOf_beq _ _
 obtain ⟨c, hc⟩ : ∃ c, c = cmpS a b := ⟨_, rfl⟩
 rw [← hc] at hw ⊢
 obtain ⟨sa, hsa⟩ : ∃ s, s = strOf a := ⟨_, rfl⟩
 obtain ⟨sb, hsb⟩ : ∃ s, s = strOf b := ⟨_, rfl⟩
 rw [← hsa, ← hsb] at e1 e3 ⊢
 clear hc hsa hsb
 rcases hw with ⟨h1, rfl⟩ | ⟨h1, h2, rfl⟩ | ⟨h1, h2, rfl⟩
 all_goals
  rw [h1] at e1
  first
   | rw [decide_eq_false h2] at e3
   | rw [decide_eq_true h2] at e3
   | have e4 := True.intro
  go_enter Tryz.func89, Tryz.ntmps89
  go_wp2_with (go_at_call 156; refine (pnan_str _ _).mono ?_; rintro e w1 ⟨rfl, rfl⟩)
  go_ret
  exact ⟨rfl, rfl⟩
end Go.Proofs.YtcjjphioeneiiaaGreatDoor

/- The landed layer 18: what its four sorts compare by; the library's insertion laid at each. Conditions: those that each theorem names. -/
namespace Go.Proofs.YtcjjphioeneiiaaGreatDoor
open Go.RowKit Go.Sort Go.Shelf
set_option linter.unusedVariables false
set_option maxRecDepth 100000

theorem grown_alloc (w : World) (o : Obj) : ∃ q os', w.alloc o = grow (w.drewN q) os' := ⟨0, #[o], alloc_eq_grow w o⟩
theorem obj_grown {w : World} {p : Nat} {o : Obj} (h : w.heap[p]? = some o) (n : Nat) (os : Array Obj) : (grow (w.drewN n) os).heap[p]? = some o := by
 show (w.heap ++ os)[p]? = some o
 rw [Array.getElem?_append_left (lt_of_block h)]
 exact h
theorem two_up (w : World) (o1 o2 : Obj) : ((w.alloc o1).alloc o2).heap[w.heap.size]? = some o1 ∧ ((w.alloc o1).alloc o2).heap[w.heap.size + 1]? = some o2 := by
 have h2 := heap_alloc_new (w.alloc o1) o2
 rw [World.size_alloc] at h2
 exact ⟨(heap_alloc_old _ _ (by rw [World.size_alloc]; omega)).trans (heap_alloc_new w o1), h2⟩
theorem ce_one2 (x : CE) : ∀ u ∈ ceCells x, u.oneCell' = true := by intro u hu; simp [ceCells] at hu; rcases hu with rfl | rfl <;> rfl
theorem cm_one2 (x : CM) : ∀ u ∈ cmCells x, u.oneCell' = true := by intro u hu; simp [cmCells] at hu; rcases hu with rfl | rfl | rfl <;> rfl
instance : Inhabited Vl := ⟨⟨[], 0⟩⟩
instance : Inhabited Fd := ⟨⟨[], 0, 0, [], false, false, []⟩⟩
instance : Inhabited CE := ⟨⟨⟨[], []⟩, none, 0⟩⟩
instance : Inhabited CM := ⟨⟨⟨[], [], []⟩, none, 0, none, 0⟩⟩

theorem pby_vl (x : Vl) (w : World) : Calls Tryz.prog 42 #[.agg #[.string (strOf x.name), .int .i64 x.num]] w fun e w' => e = .returned (.int .i64 x.num) ∧ ∃ q os', w' = grow (w.drewN q) os' := by
 go_enter Tryz.func42, Tryz.ntmps42
 go_wp2
 go_ret
 exact ⟨rfl, grown_alloc w _⟩
set_option maxHeartbeats 4000000 in
theorem prise_vl (x y : Vl) (u : World) (pb : Nat) (hp : u.cell? ⟨pb, 0, none⟩ = some (.func (.func 42) #[] #[])) : Calls Tryz.prog 93 #[.agg #[.string (strOf x.name), .int .i64 x.num], .agg #[.string (strOf y.name), .int .i64 y.num], .pointer (some ⟨pb, 0, none⟩)] u fun e w' => e = .returned (.int .i64 (cmpI x.num y.num)) ∧ ∃ q os', w' = grow (u.drewN q) os' := by
 have mixed : Tryz.prog.follows .mixedOrders = true := by kernel_rfl
 obtain ⟨hX, hY⟩ := two_up u (.cells #[.string (strOf x.name), .int .i64 x.num] 67) (.cells #[.string (strOf y.name), .int .i64 y.num] 67)
 have hb : pb < u.heap.size := World.block_lt_of_cell? u _ hp
 have hp2 : ∀ (n : Nat) (os : Array Obj), (grow (((u.alloc (.cells #[.string (strOf x.name), .int .i64 x.num] 67)).alloc (.cells #[.string (strOf y.name), .int .i64 y.num] 67)).drewN n) os).cell? ⟨pb, 0, none⟩ = some (.func (.func 42) #[] #[]) := fun n os => cell_grown (by simp; omega) (((World.cell?_alloc_lt _ _ _ (by simp; omega)).trans (World.cell?_alloc_lt _ _ _ hb)).trans hp) n os
 have x0 := fun (n : Nat) (os : Array Obj) => obj_cell (obj_grown hX n os) 0; have x1 := fun (n : Nat) (os : Array Obj) => obj_cell (obj_grown hX n os) 1
 have y0 := fun (n : Nat) (os : Array Obj) => obj_cell (obj_grown hY n os) 0; have y1 := fun (n : Nat) (os : Array Obj) => obj_cell (obj_grown hY n os) 1
 clear hX hY hp hb
 go_enter Tryz.func93, Tryz.ntmps93
 go_wp2
 go_quiet_grown (first
  | (go_at_call 42; exact Calls.grown_of (pby_vl x _))
  | (go_at_call 42; exact Calls.grown_of (pby_vl y _))
  | (go_at_call 94; exact Calls.grown_of ((pcmp_int _ _ _).mono fun _ _ h => ⟨h.1, 0, #[], by rw [h.2, grow_empty]; rfl⟩)))
 go_wp2
 go_ret
 exact ⟨rfl, nq, #[.cells #[.string (strOf x.name), .int .i64 x.num] 67] ++ #[.cells #[.string (strOf y.name), .int .i64 y.num] 67] ++ osq, by rw [alloc_eq_grow, alloc_eq_grow, grow_grow]; show grow (grow (u.drewN nq) _) osq = _; rw [grow_grow]⟩

theorem pby_fd (x : Fd) (w : World) : Calls Tryz.prog 44 #[.agg #[.string (strOf x.name), .int .i64 x.num, .int .i64 x.ty, .string (strOf x.ref), .bool x.rep, .bool x.loose, .string (strOf x.one)]] w fun e w' => e = .returned (.int .i64 x.num) ∧ ∃ q os', w' = grow (w.drewN q) os' := by
 go_enter Tryz.func44, Tryz.ntmps44
 go_wp2
 go_ret
 exact ⟨rfl, grown_alloc w _⟩
set_option maxHeartbeats 4000000 in
theorem prise_fd (x y : Fd) (u : World) (pb : Nat) (hp : u.cell? ⟨pb, 0, none⟩ = some (.func (.func 44) #[] #[])) : Calls Tryz.prog 96 #[.agg #[.string (strOf x.name), .int .i64 x.num, .int .i64 x.ty, .string (strOf x.ref), .bool x.rep, .bool x.loose, .string (strOf x.one)], .agg #[.string (strOf y.name), .int .i64 y.num, .int .i64 y.ty, .string (strOf y.ref), .bool y.rep, .bool y.loose, .string (strOf y.one)], .pointer (some ⟨pb, 0, none⟩)] u fun e w' => e = .returned (.int .i64 (cmpI x.num y.num)) ∧ ∃ q os', w' = grow (u.drewN q) os' := by
 have mixed : Tryz.prog.follows .mixedOrders = true := by kernel_rfl
 obtain ⟨hX, hY⟩ := two_up u (.cells #[.string (strOf x.name), .int .i64 x.num, .int .i64 x.ty, .string (strOf x.ref), .bool x.rep, .bool x.loose, .string (strOf x.one)] 70) (.cells #[.string (strOf y.name), .int .i64 y.num, .int .i64 y.ty, .string (strOf y.ref), .bool y.rep, .bool y.loose, .string (strOf y.one)] 70)
 have hb : pb < u.heap.size := World.block_lt_of_cell? u _ hp
 have hp2 : ∀ (n : Nat) (os : Array Obj), (grow (((u.alloc (.cells #[.string (strOf x.name), .int .i64 x.num, .int .i64 x.ty, .string (strOf x.ref), .bool x.rep, .bool x.loose, .string (strOf x.one)] 70)).alloc (.cells #[.string (strOf y.name), .int .i64 y.num, .int .i64 y.ty, .string (strOf y.ref), .bool y.rep, .bool y.loose, .string (strOf y.one)] 70)).drewN n) os).cell? ⟨pb, 0, none⟩ = some (.func (.func 44) #[] #[]) := fun n os => cell_grown (by simp; omega) (((World.cell?_alloc_lt _ _ _ (by simp; omega)).trans (World.cell?_alloc_lt _ _ _ hb)).trans hp) n os
 have x0 := fun (n : Nat) (os : Array Obj) => obj_cell (obj_grown hX n os) 0; have x1 := fun (n : Nat) (os : Array Obj) => obj_cell (obj_grown hX n os) 1; have x2 := fun (n : Nat) (os : Array Obj) => obj_cell (obj_grown hX n os) 2; have x3 := fun (n : Nat) (os : Array Obj) => obj_cell (obj_grown hX n os) 3; have x4 := fun (n : Nat) (os : Array Obj) => obj_cell (obj_grown hX n os) 4; have x5 := fun (n : Nat) (os : Array Obj) => obj_cell (obj_grown hX n os) 5; have x6 := fun (n : Nat) (os : Array Obj) => obj_cell (obj_grown hX n os) 6
 have y0 := fun (n : Nat) (os : Array Obj) => obj_cell (obj_grown hY n os) 0; have y1 := fun (n : Nat) (os : Array Obj) => obj_cell (obj_grown hY n os) 1; have y2 := fun (n : Nat) (os : Array Obj) => obj_cell (obj_grown hY n os) 2; have y3 := fun (n : Nat) (os : Array Obj) => obj_cell (obj_grown hY n os) 3; have y4 := fun (n : Nat) (os : Array Obj) => obj_cell (obj_grown hY n os) 4; have y5 := fun (n : Nat) (os : Array Obj) => obj_cell (obj_grown hY n os) 5; have y6 := fun (n : Nat) (os : Array Obj) => obj_cell (obj_grown hY n os) 6
 clear hX hY hp hb
 go_enter Tryz.func96, Tryz.ntmps96
 go_wp2
 go_quiet_grown (first
  | (go_at_call 44; exact Calls.grown_of (pby_fd x _))
  | (go_at_call 44; exact Calls.grown_of (pby_fd y _))
  | (go_at_call 94; exact Calls.grown_of ((pcmp_int _ _ _).mono fun _ _ h => ⟨h.1, 0, #[], by rw [h.2, grow_empty]; rfl⟩)))
 go_wp2
 go_ret
 exact ⟨rfl, nq, #[.cells #[.string (strOf x.name), .int .i64 x.num, .int .i64 x.ty, .string (strOf x.ref), .bool x.rep, .bool x.loose, .string (strOf x.one)] 70] ++ #[.cells #[.string (strOf y.name), .int .i64 y.num, .int .i64 y.ty, .string (strOf y.ref), .bool y.rep, .bool y.loose, .string (strOf y.one)] 70] ++ osq, by rw [alloc_eq_grow, alloc_eq_grow, grow_grow]; show grow (grow (u.drewN nq) _) osq = _; rw [grow_grow]⟩

theorem pby_en (x : CE) (w : World) : Calls Tryz.prog 38 #[.agg #[.string (strOf x.ce_e.name), .slice x.ce_a x.ce_e.values.length x.ce_c]] w fun e w' => e = .returned (.string (strOf x.ce_e.name)) ∧ ∃ q os', w' = grow (w.drewN q) os' := by
 go_enter Tryz.func38, Tryz.ntmps38
 go_wp2
 go_ret
 exact ⟨rfl, grown_alloc w _⟩
set_option maxHeartbeats 4000000 in
theorem prise_en (x y : CE) (u : World) (pb : Nat) (hp : u.cell? ⟨pb, 0, none⟩ = some (.func (.func 38) #[] #[])) : Calls Tryz.prog 88 #[.agg #[.string (strOf x.ce_e.name), .slice x.ce_a x.ce_e.values.length x.ce_c], .agg #[.string (strOf y.ce_e.name), .slice y.ce_a y.ce_e.values.length y.ce_c], .pointer (some ⟨pb, 0, none⟩)] u fun e w' => e = .returned (.int .i64 (cmpS x.ce_e.name y.ce_e.name)) ∧ ∃ q os', w' = grow (u.drewN q) os' := by
 have mixed : Tryz.prog.follows .mixedOrders = true := by kernel_rfl
 obtain ⟨hX, hY⟩ := two_up u (.cells #[.string (strOf x.ce_e.name), .slice x.ce_a x.ce_e.values.length x.ce_c] 47) (.cells #[.string (strOf y.ce_e.name), .slice y.ce_a y.ce_e.values.length y.ce_c] 47)
 have hb : pb < u.heap.size := World.block_lt_of_cell? u _ hp
 have hp2 : ∀ (n : Nat) (os : Array Obj), (grow (((u.alloc (.cells #[.string (strOf x.ce_e.name), .slice x.ce_a x.ce_e.values.length x.ce_c] 47)).alloc (.cells #[.string (strOf y.ce_e.name), .slice y.ce_a y.ce_e.values.length y.ce_c] 47)).drewN n) os).cell? ⟨pb, 0, none⟩ = some (.func (.func 38) #[] #[]) := fun n os => cell_grown (by simp; omega) (((World.cell?_alloc_lt _ _ _ (by simp; omega)).trans (World.cell?_alloc_lt _ _ _ hb)).trans hp) n os
 have x0 := fun (n : Nat) (os : Array Obj) => obj_cell (obj_grown hX n os) 0; have x1 := fun (n : Nat) (os : Array Obj) => obj_cell (obj_grown hX n os) 1
 have y0 := fun (n : Nat) (os : Array Obj) => obj_cell (obj_grown hY n os) 0; have y1 := fun (n : Nat) (os : Array Obj) => obj_cell (obj_grown hY n os) 1
 clear hX hY hp hb
 go_enter Tryz.func88, Tryz.ntmps88
 go_wp2
 go_quiet_grown (first
  | (go_at_call 38; exact Calls.grown_of (pby_en x _))
  | (go_at_call 38; exact Calls.grown_of (pby_en y _))
  | (go_at_call 89; exact Calls.grown_of ((pcmp_str _ _ _).mono fun _ _ h => ⟨h.1, 0, #[], by rw [h.2, grow_empty]; rfl⟩)))
 go_wp2
 go_ret
 exact ⟨rfl, nq, #[.cells #[.string (strOf x.ce_e.name), .slice x.ce_a x.ce_e.values.length x.ce_c] 47] ++ #[.cells #[.string (strOf y.ce_e.name), .slice y.ce_a y.ce_e.values.length y.ce_c] 47] ++ osq, by rw [alloc_eq_grow, alloc_eq_grow, grow_grow]; show grow (grow (u.drewN nq) _) osq = _; rw [grow_grow]⟩

theorem pby_ms (x : CM) (w : World) : Calls Tryz.prog 40 #[.agg #[.string (strOf x.cm_m.name), .slice x.cm_a x.cm_m.fields.length x.cm_c, .slice x.cm_b x.cm_m.barred.length x.cm_d]] w fun e w' => e = .returned (.string (strOf x.cm_m.name)) ∧ ∃ q os', w' = grow (w.drewN q) os' := by
 go_enter Tryz.func40, Tryz.ntmps40
 go_wp2
 go_ret
 exact ⟨rfl, grown_alloc w _⟩
set_option maxHeartbeats 4000000 in
theorem prise_ms (x y : CM) (u : World) (pb : Nat) (hp : u.cell? ⟨pb, 0, none⟩ = some (.func (.func 40) #[] #[])) : Calls Tryz.prog 91 #[.agg #[.string (strOf x.cm_m.name), .slice x.cm_a x.cm_m.fields.length x.cm_c, .slice x.cm_b x.cm_m.barred.length x.cm_d], .agg #[.string (strOf y.cm_m.name), .slice y.cm_a y.cm_m.fields.length y.cm_c, .slice y.cm_b y.cm_m.barred.length y.cm_d], .pointer (some ⟨pb, 0, none⟩)] u fun e w' => e = .returned (.int .i64 (cmpS x.cm_m.name y.cm_m.name)) ∧ ∃ q os', w' = grow (u.drewN q) os' := by
 have mixed : Tryz.prog.follows .mixedOrders = true := by kernel_rfl
 obtain ⟨hX, hY⟩ := two_up u (.cells #[.string (strOf x.cm_m.name), .slice x.cm_a x.cm_m.fields.length x.cm_c, .slice x.cm_b x.cm_m.barred.length x.cm_d] 43) (.cells #[.string (strOf y.cm_m.name), .slice y.cm_a y.cm_m.fields.length y.cm_c, .slice y.cm_b y.cm_m.barred.length y.cm_d] 43)
 have hb : pb < u.heap.size := World.block_lt_of_cell? u _ hp
 have hp2 : ∀ (n : Nat) (os : Array Obj), (grow (((u.alloc (.cells #[.string (strOf x.cm_m.name), .slice x.cm_a x.cm_m.fields.length x.cm_c, .slice x.cm_b x.cm_m.barred.length x.cm_d] 43)).alloc (.cells #[.string (strOf y.cm_m.name), .slice y.cm_a y.cm_m.fields.length y.cm_c, .slice y.cm_b y.cm_m.barred.length y.cm_d] 43)).drewN n) os).cell? ⟨pb, 0, none⟩ = some (.func (.func 40) #[] #[]) := fun n os => cell_grown (by simp; omega) (((World.cell?_alloc_lt _ _ _ (by simp; omega)).trans (World.cell?_alloc_lt _ _ _ hb)).trans hp) n os
 have x0 := fun (n : Nat) (os : Array Obj) => obj_cell (obj_grown hX n os) 0; have x1 := fun (n : Nat) (os : Array Obj) => obj_cell (obj_grown hX n os) 1; have x2 := fun (n : Nat) (os : Array Obj) => obj_cell (obj_grown hX n os) 2
 have y0 := fun (n : Nat) (os : Array Obj) => obj_cell (obj_grown hY n os) 0; have y1 := fun (n : Nat) (os : Array Obj) => obj_cell (obj_grown hY n os) 1; have y2 := fun (n : Nat) (os : Array Obj) => obj_cell (obj_grown hY n os) 2
 clear hX hY hp hb
 go_enter Tryz.func91, Tryz.ntmps91
 go_wp2
 go_quiet_grown (first
  | (go_at_call 40; exact Calls.grown_of (pby_ms x _))
  | (go_at_call 40; exact Calls.grown_of (pby_ms y _))
  | (go_at_call 89; exact Calls.grown_of ((pcmp_str _ _ _).mono fun _ _ h => ⟨h.1, 0, #[], by rw [h.2, grow_empty]; rfl⟩)))
 go_wp2
 go_ret
 exact ⟨rfl, nq, #[.cells #[.string (strOf x.cm_m.name), .slice x.cm_a x.cm_m.fields.length x.cm_c, .slice x.cm_b x.cm_m.barred.length x.cm_d] 43] ++ #[.cells #[.string (strOf y.cm_m.name), .slice y.cm_a y.cm_m.fields.length y.cm_c, .slice y.cm_b y.cm_m.barred.length y.cm_d] 43] ++ osq, by rw [alloc_eq_grow, alloc_eq_grow, grow_grow]; show grow (grow (u.drewN nq) _) osq = _; rw [grow_grow]⟩

def rn_vl : Ren := ⟨fun | 20 => 227 | n => n, fun | 0 => 0 | 3 => 3 | 4 => 4 | 22 => 45 | 24 => 67 | 25 => 119 | n => n, fun n => n⟩
theorem lay_vl : SlLaysF0.n20 Tryz.prog rn_vl where
 mixed := by kernel_rfl
 f20 := ⟨Tryz.f227.name, by kernel_rfl, Tryz.func227.trans (congrArg some (by kernel_rfl))⟩
 t0 := Tryz.underlying0
 a0 := Tryz.isAgg0
 z0 := Tryz.sizeOf0
 v0 := Tryz.zeroValue0
 t3 := Tryz.underlying3
 a3 := Tryz.isAgg3
 z3 := Tryz.sizeOf3
 v3 := Tryz.zeroValue3
 t4 := Tryz.underlying4
 a4 := Tryz.isAgg4
 z4 := Tryz.sizeOf4
 v4 := Tryz.zeroValue4
 t22 := Tryz.underlying45
 a22 := Tryz.isAgg45
 z22 := Tryz.sizeOf45
 v22 := Tryz.zeroValue45
 t25 := Tryz.underlying119
 a25 := Tryz.isAgg119
 z25 := Tryz.sizeOf119
 v25 := Tryz.zeroValue119
def cf_vl (x y : Vl) : Int := cmpI x.num y.num
theorem cl_vl {w : World} {pb blk off size : Nat} (hp : w.cell? ⟨pb, 0, none⟩ = some (.func (.func 42) #[] #[])) (hne : pb ≠ blk) : CmpLays Tryz.prog 93 #[.pointer (some ⟨pb, 0, none⟩)] vlCells 2 cf_vl blk off size w := fun m os dk _ x y => by
 have hb : pb < w.heap.size := World.block_lt_of_cell? w _ hp
 refine prise_vl x y _ pb ?_
 unfold sortWorldK
 rw [cell?_grow _ _ _ (by rw [size_putRowK]; exact hb)]
 exact (cell?_putRowK_other vlCells 2 _ blk off dk ⟨pb, 0, none⟩ hne).trans hp
theorem ins_vl {w : World} {pb blk off cap a b : Nat} {d : Array Vl} (hp : w.cell? ⟨pb, 0, none⟩ = some (.func (.func 42) #[] #[])) (hne : pb ≠ blk) (hH : HoldsK vlCells 2 w blk off d) (hblk : blk < w.heap.size) (hab : a ≤ b) (hb : b ≤ d.size) (hsz : d.size < 4611686018427387904) :
 Calls Tryz.prog 227 #[.slice (some ⟨blk, off, none⟩) d.size cap, .int .i64 a, .int .i64 b, .func (.func 93) #[] #[.pointer (some ⟨pb, 0, none⟩)]] w fun e w' =>
  e = .returned (.tuple #[]) ∧ ∃ n os, w' = sortWorldK vlCells 2 w blk off n (Sort.insertionSort (ltOf cf_vl) d a b) os :=
 AnyQ.insertionSortCmpFunc lay_vl 2 Tryz.isAgg67 Tryz.sizeOf67 vlCells (fun _ => rfl) vl_one cf_vl _ _ blk off cap a b d w (fun _ _ => rfl) (cl_vl hp hne) hH hblk hab hb hsz

def rn_fd : Ren := ⟨fun | 20 => 229 | n => n, fun | 0 => 0 | 3 => 3 | 4 => 4 | 22 => 40 | 24 => 70 | 25 => 121 | n => n, fun n => n⟩
theorem lay_fd : SlLaysF0.n20 Tryz.prog rn_fd where
 mixed := by kernel_rfl
 f20 := ⟨Tryz.f229.name, by kernel_rfl, Tryz.func229.trans (congrArg some (by kernel_rfl))⟩
 t0 := Tryz.underlying0
 a0 := Tryz.isAgg0
 z0 := Tryz.sizeOf0
 v0 := Tryz.zeroValue0
 t3 := Tryz.underlying3
 a3 := Tryz.isAgg3
 z3 := Tryz.sizeOf3
 v3 := Tryz.zeroValue3
 t4 := Tryz.underlying4
 a4 := Tryz.isAgg4
 z4 := Tryz.sizeOf4
 v4 := Tryz.zeroValue4
 t22 := Tryz.underlying40
 a22 := Tryz.isAgg40
 z22 := Tryz.sizeOf40
 v22 := Tryz.zeroValue40
 t25 := Tryz.underlying121
 a25 := Tryz.isAgg121
 z25 := Tryz.sizeOf121
 v25 := Tryz.zeroValue121
def cf_fd (x y : Fd) : Int := cmpI x.num y.num
theorem cl_fd {w : World} {pb blk off size : Nat} (hp : w.cell? ⟨pb, 0, none⟩ = some (.func (.func 44) #[] #[])) (hne : pb ≠ blk) : CmpLays Tryz.prog 96 #[.pointer (some ⟨pb, 0, none⟩)] fdCells 7 cf_fd blk off size w := fun m os dk _ x y => by
 have hb : pb < w.heap.size := World.block_lt_of_cell? w _ hp
 refine prise_fd x y _ pb ?_
 unfold sortWorldK
 rw [cell?_grow _ _ _ (by rw [size_putRowK]; exact hb)]
 exact (cell?_putRowK_other fdCells 7 _ blk off dk ⟨pb, 0, none⟩ hne).trans hp
theorem ins_fd {w : World} {pb blk off cap a b : Nat} {d : Array Fd} (hp : w.cell? ⟨pb, 0, none⟩ = some (.func (.func 44) #[] #[])) (hne : pb ≠ blk) (hH : HoldsK fdCells 7 w blk off d) (hblk : blk < w.heap.size) (hab : a ≤ b) (hb : b ≤ d.size) (hsz : d.size < 4611686018427387904) :
 Calls Tryz.prog 229 #[.slice (some ⟨blk, off, none⟩) d.size cap, .int .i64 a, .int .i64 b, .func (.func 96) #[] #[.pointer (some ⟨pb, 0, none⟩)]] w fun e w' =>
  e = .returned (.tuple #[]) ∧ ∃ n os, w' = sortWorldK fdCells 7 w blk off n (Sort.insertionSort (ltOf cf_fd) d a b) os :=
 AnyQ.insertionSortCmpFunc lay_fd 7 Tryz.isAgg70 Tryz.sizeOf70 fdCells (fun _ => rfl) fd_one cf_fd _ _ blk off cap a b d w (fun _ _ => rfl) (cl_fd hp hne) hH hblk hab hb hsz

def rn_en : Ren := ⟨fun | 20 => 223 | n => n, fun | 0 => 0 | 3 => 3 | 4 => 4 | 22 => 23 | 24 => 47 | 25 => 114 | n => n, fun n => n⟩
theorem lay_en : SlLaysF0.n20 Tryz.prog rn_en where
 mixed := by kernel_rfl
 f20 := ⟨Tryz.f223.name, by kernel_rfl, Tryz.func223.trans (congrArg some (by kernel_rfl))⟩
 t0 := Tryz.underlying0
 a0 := Tryz.isAgg0
 z0 := Tryz.sizeOf0
 v0 := Tryz.zeroValue0
 t3 := Tryz.underlying3
 a3 := Tryz.isAgg3
 z3 := Tryz.sizeOf3
 v3 := Tryz.zeroValue3
 t4 := Tryz.underlying4
 a4 := Tryz.isAgg4
 z4 := Tryz.sizeOf4
 v4 := Tryz.zeroValue4
 t22 := Tryz.underlying23
 a22 := Tryz.isAgg23
 z22 := Tryz.sizeOf23
 v22 := Tryz.zeroValue23
 t25 := Tryz.underlying114
 a25 := Tryz.isAgg114
 z25 := Tryz.sizeOf114
 v25 := Tryz.zeroValue114
def cf_en (x y : CE) : Int := cmpS x.ce_e.name y.ce_e.name
theorem cl_en {w : World} {pb blk off size : Nat} (hp : w.cell? ⟨pb, 0, none⟩ = some (.func (.func 38) #[] #[])) (hne : pb ≠ blk) : CmpLays Tryz.prog 88 #[.pointer (some ⟨pb, 0, none⟩)] ceCells 2 cf_en blk off size w := fun m os dk _ x y => by
 have hb : pb < w.heap.size := World.block_lt_of_cell? w _ hp
 refine prise_en x y _ pb ?_
 unfold sortWorldK
 rw [cell?_grow _ _ _ (by rw [size_putRowK]; exact hb)]
 exact (cell?_putRowK_other ceCells 2 _ blk off dk ⟨pb, 0, none⟩ hne).trans hp
theorem ins_en {w : World} {pb blk off cap a b : Nat} {d : Array CE} (hp : w.cell? ⟨pb, 0, none⟩ = some (.func (.func 38) #[] #[])) (hne : pb ≠ blk) (hH : HoldsK ceCells 2 w blk off d) (hblk : blk < w.heap.size) (hab : a ≤ b) (hb : b ≤ d.size) (hsz : d.size < 4611686018427387904) :
 Calls Tryz.prog 223 #[.slice (some ⟨blk, off, none⟩) d.size cap, .int .i64 a, .int .i64 b, .func (.func 88) #[] #[.pointer (some ⟨pb, 0, none⟩)]] w fun e w' =>
  e = .returned (.tuple #[]) ∧ ∃ n os, w' = sortWorldK ceCells 2 w blk off n (Sort.insertionSort (ltOf cf_en) d a b) os :=
 AnyQ.insertionSortCmpFunc lay_en 2 Tryz.isAgg47 Tryz.sizeOf47 ceCells (fun _ => rfl) ce_one2 cf_en _ _ blk off cap a b d w (fun _ _ => rfl) (cl_en hp hne) hH hblk hab hb hsz

def rn_ms : Ren := ⟨fun | 20 => 225 | n => n, fun | 0 => 0 | 3 => 3 | 4 => 4 | 22 => 24 | 24 => 43 | 25 => 116 | n => n, fun n => n⟩
theorem lay_ms : SlLaysF0.n20 Tryz.prog rn_ms where
 mixed := by kernel_rfl
 f20 := ⟨Tryz.f225.name, by kernel_rfl, Tryz.func225.trans (congrArg some (by kernel_rfl))⟩
 t0 := Tryz.underlying0
 a0 := Tryz.isAgg0
 z0 := Tryz.sizeOf0
 v0 := Tryz.zeroValue0
 t3 := Tryz.underlying3
 a3 := Tryz.isAgg3
 z3 := Tryz.sizeOf3
 v3 := Tryz.zeroValue3
 t4 := Tryz.underlying4
 a4 := Tryz.isAgg4
 z4 := Tryz.sizeOf4
 v4 := Tryz.zeroValue4
 t22 := Tryz.underlying24
 a22 := Tryz.isAgg24
 z22 := Tryz.sizeOf24
 v22 := Tryz.zeroValue24
 t25 := Tryz.underlying116
 a25 := Tryz.isAgg116
 z25 := Tryz.sizeOf116
 v25 := Tryz.zeroValue116
def cf_ms (x y : CM) : Int := cmpS x.cm_m.name y.cm_m.name
theorem cl_ms {w : World} {pb blk off size : Nat} (hp : w.cell? ⟨pb, 0, none⟩ = some (.func (.func 40) #[] #[])) (hne : pb ≠ blk) : CmpLays Tryz.prog 91 #[.pointer (some ⟨pb, 0, none⟩)] cmCells 3 cf_ms blk off size w := fun m os dk _ x y => by
 have hb : pb < w.heap.size := World.block_lt_of_cell? w _ hp
 refine prise_ms x y _ pb ?_
 unfold sortWorldK
 rw [cell?_grow _ _ _ (by rw [size_putRowK]; exact hb)]
 exact (cell?_putRowK_other cmCells 3 _ blk off dk ⟨pb, 0, none⟩ hne).trans hp
theorem ins_ms {w : World} {pb blk off cap a b : Nat} {d : Array CM} (hp : w.cell? ⟨pb, 0, none⟩ = some (.func (.func 40) #[] #[])) (hne : pb ≠ blk) (hH : HoldsK cmCells 3 w blk off d) (hblk : blk < w.heap.size) (hab : a ≤ b) (hb : b ≤ d.size) (hsz : d.size < 4611686018427387904) :
 Calls Tryz.prog 225 #[.slice (some ⟨blk, off, none⟩) d.size cap, .int .i64 a, .int .i64 b, .func (.func 91) #[] #[.pointer (some ⟨pb, 0, none⟩)]] w fun e w' =>
  e = .returned (.tuple #[]) ∧ ∃ n os, w' = sortWorldK cmCells 3 w blk off n (Sort.insertionSort (ltOf cf_ms) d a b) os :=
 AnyQ.insertionSortCmpFunc lay_ms 3 Tryz.isAgg43 Tryz.sizeOf43 cmCells (fun _ => rfl) cm_one2 cf_ms _ _ blk off cap a b d w (fun _ _ => rfl) (cl_ms hp hne) hH hblk hab hb hsz
end Go.Proofs.YtcjjphioeneiiaaGreatDoor

