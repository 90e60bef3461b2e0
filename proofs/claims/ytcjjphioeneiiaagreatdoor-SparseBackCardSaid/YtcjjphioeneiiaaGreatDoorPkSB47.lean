/- Several texts in one: StF. What each proves, and its conditions, stands at its own head. -/
import Derived.Test.YtcjjphioeneiiaaGreatDoorPkSB39
import Derived.Test.YtcjjphioeneiiaaGreatDoorPkSB45
/- The program's Sorted. Conditions: those that each theorem names. -/
namespace Go.Proofs.YtcjjphioeneiiaaGreatDoor
open Go.RowKit
set_option linter.unusedVariables false
set_option maxRecDepth 100000

theorem grown_none {w w' : World} (hb : Below w.heap.size w w') : w.grownBy w' none := ⟨hb.os, hb.tape, hb.output, hb.size, fun k hk _ => hb.block k hk⟩
theorem rse_vl {w : World} {base n : Nat} {v : Value} {L : List Vl} (h : w.ownsRow base 67 2 v n (L.flatMap vlCells)) (hlt : n < 20) :
 Calls Tryz.prog 41 #[v, .func (.func 42) #[] #[]] w fun e w' => e = .returned (.tuple #[]) ∧ w'.ownsRow base 67 2 v n ((sortT (gtN Vl.num) L).flatMap vlCells) ∧ w.grownBy w' v.ownBlock := by
 have hn : n = L.length := by have := h.1; rw [flat_length _ 2 (fun _ => rfl)] at this; omega
 rcases h.2 with ⟨rfl, h0⟩ | ⟨g, cap, cur, rfl, hb, hh, h1, h2, h3, h4⟩
 ·obtain rfl : L = [] := List.eq_nil_of_length_eq_zero (by omega)
  subst h0
  refine (srt0_vl none 0 w).mono ?_
  rintro e w' ⟨rfl, hbe⟩
  exact ⟨rfl, own_below h hbe, grown_none hbe⟩
 ·refine (srt_vl (a := 0) (cap2 := cap) h (Nat.zero_le _) (by simpa using hn) hlt).mono ?_
  rintro e w' ⟨rfl, ho, hg⟩
  exact ⟨rfl, by simpa using ho, hg⟩
theorem rse_fd {w : World} {base n : Nat} {v : Value} {L : List Fd} (h : w.ownsRow base 70 7 v n (L.flatMap fdCells)) (hlt : n < 20) :
 Calls Tryz.prog 43 #[v, .func (.func 44) #[] #[]] w fun e w' => e = .returned (.tuple #[]) ∧ w'.ownsRow base 70 7 v n ((sortT (gtN Fd.num) L).flatMap fdCells) ∧ w.grownBy w' v.ownBlock := by
 have hn : n = L.length := by have := h.1; rw [flat_length _ 7 (fun _ => rfl)] at this; omega
 rcases h.2 with ⟨rfl, h0⟩ | ⟨g, cap, cur, rfl, hb, hh, h1, h2, h3, h4⟩
 ·obtain rfl : L = [] := List.eq_nil_of_length_eq_zero (by omega)
  subst h0
  refine (srt0_fd none 0 w).mono ?_
  rintro e w' ⟨rfl, hbe⟩
  exact ⟨rfl, own_below h hbe, grown_none hbe⟩
 ·refine (srt_fd (a := 0) (cap2 := cap) h (Nat.zero_le _) (by simpa using hn) hlt).mono ?_
  rintro e w' ⟨rfl, ho, hg⟩
  exact ⟨rfl, by simpa using ho, hg⟩
theorem rse_en {w : World} {base n : Nat} {v : Value} {L : List CE} (h : w.ownsRow base 47 2 v n (L.flatMap ceCells)) (hlt : n < 20) :
 Calls Tryz.prog 37 #[v, .func (.func 38) #[] #[]] w fun e w' => e = .returned (.tuple #[]) ∧ w'.ownsRow base 47 2 v n ((sortT (gtS (fun x : CE => x.ce_e.name)) L).flatMap ceCells) ∧ w.grownBy w' v.ownBlock := by
 have hn : n = L.length := by have := h.1; rw [flat_length _ 2 (fun _ => rfl)] at this; omega
 rcases h.2 with ⟨rfl, h0⟩ | ⟨g, cap, cur, rfl, hb, hh, h1, h2, h3, h4⟩
 ·obtain rfl : L = [] := List.eq_nil_of_length_eq_zero (by omega)
  subst h0
  refine (srt0_en none 0 w).mono ?_
  rintro e w' ⟨rfl, hbe⟩
  exact ⟨rfl, own_below h hbe, grown_none hbe⟩
 ·refine (srt_en (a := 0) (cap2 := cap) h (Nat.zero_le _) (by simpa using hn) hlt).mono ?_
  rintro e w' ⟨rfl, ho, hg⟩
  exact ⟨rfl, by simpa using ho, hg⟩

theorem rse_ms {w : World} {base n cap : Nat} {A : Option Addr} {L : List CM} (h : w.ownsRow base 43 3 (.slice A n cap) n (L.flatMap cmCells)) (hlt : n < 20) :
 Calls Tryz.prog 39 #[.slice (if cap = (min 1 (n : Int)).toNat then A else Option.map (fun x => x.add ((min 1 (n : Int)).toNat * 3)) A) (n - (min 1 (n : Int)).toNat) (cap - (min 1 (n : Int)).toNat), .func (.func 40) #[] #[]] w fun e w' => e = .returned (.tuple #[]) ∧ w'.ownsRow base 43 3 (.slice A n cap) n ((L.take 1 ++ sortT (gtS (fun x : CM => x.cm_m.name)) (L.drop 1)).flatMap cmCells) ∧ w.grownBy w' (Value.slice A n cap).ownBlock := by
 have hn : n = L.length := by have := h.1; rw [flat_length _ 3 (fun _ => rfl)] at this; omega
 by_cases h2 : n ≤ 1
 ·rw [show n - (min 1 (n : Int)).toNat = 0 by omega]
  refine (srt0_ms _ _ w).mono ?_
  rintro e w' ⟨rfl, hbe⟩
  refine ⟨rfl, ?_, ?_⟩
  ·rw [List.drop_of_length_le (by omega), List.take_of_length_le (by omega), show sortT (gtS (fun x : CM => x.cm_m.name)) [] = [] from rfl, List.append_nil]
   exact own_below h hbe
  ·exact ⟨hbe.os, hbe.tape, hbe.output, hbe.size, fun k hk _ => hbe.block k hk⟩
 ·obtain ⟨g, cap', cur, e, hb, hh, h1, h2', h3, h4⟩ := h.2.resolve_left (fun e => by omega)
  cases e
  rw [show (min 1 (n : Int)).toNat = 1 by omega, if_neg (by omega)]
  refine (srt_ms (a := 1) (cap2 := cap - 1) h (by omega) (by omega) (by omega)).mono ?_
  rintro e w' ⟨rfl, ho, hg⟩
  exact ⟨rfl, ho, hg⟩
theorem insT_perm {α : Type} (gt : α → α → Bool) (out : List α) (x : α) : (insT gt out x).Perm (x :: out) := by
 unfold insT
 refine List.perm_middle.trans ?_
 rw [List.take_append_drop]
theorem srt_perm {α : Type} (gt : α → α → Bool) (l : List α) : (sortT gt l).Perm l := by
 have h : ∀ (l acc : List α), (l.foldl (insT gt) acc).Perm (acc ++ l) := by
  intro l
  induction l with
  | nil => intro acc; simp
  | cons x r ih =>
    intro acc
    rw [List.foldl_cons]
    refine (ih _).trans ?_
    refine ((insT_perm gt acc x).append_right r).trans ?_
    exact (List.perm_middle (l₁ := acc)).symm
 have := h l []
 rw [List.nil_append] at this
 exact this
theorem cut_perm {α : Type} (gt : α → α → Bool) (l : List α) : (l.take 1 ++ sortT gt (l.drop 1)).Perm l := by
 have := (srt_perm gt (l.drop 1)).append_left (l.take 1)
 rwa [List.take_append_drop] at this
theorem srt_map {α β : Type} {f : α → β} {gt : α → α → Bool} {gt' : β → β → Bool} (h : ∀ x y, gt' (f x) (f y) = gt x y) (l : List α) : (sortT gt l).map f = sortT gt' (l.map f) := by
 have hb : ∀ (out : List α) (x : α) (k : Nat), backT (fun y => gt' y (f x)) (out.map f) k = backT (fun y => gt y x) out k := by
  intro out x k
  induction k with
  | zero => rfl
  | succ k ih =>
    rw [backT, backT, List.getElem?_map]
    cases out[k]? with
    | none => rfl
    | some y => simp only [Option.map_some, h, ih]
 have hi : ∀ (l acc : List α), (l.foldl (insT gt) acc).map f = (l.map f).foldl (insT gt') (acc.map f) := by
  intro l
  induction l with
  | nil => intro acc; rfl
  | cons x r ih =>
    intro acc
    rw [List.foldl_cons, List.map_cons, List.foldl_cons, ih]
    congr 1
    unfold insT
    rw [List.length_map, hb, List.map_append, List.map_cons, List.map_take, List.map_drop]
 exact hi l []
/-- The lists' parts sorted, in place. -/
def ceS (x : CE) : CE := ⟨sortEn x.ce_e, x.ce_a, x.ce_c⟩
def cmF (x : CM) : CM := ⟨⟨x.cm_m.name, sortT (gtN Fd.num) x.cm_m.fields, x.cm_m.barred⟩, x.cm_a, x.cm_c, x.cm_b, x.cm_d⟩
def cmB (x : CM) : CM := ⟨⟨x.cm_m.name, x.cm_m.fields, sortT (gtN id) x.cm_m.barred⟩, x.cm_a, x.cm_c, x.cm_b, x.cm_d⟩
theorem ceS_cells (x : CE) : ceCells (ceS x) = ceCells x := by unfold ceCells ceS sortEn; rw [srt_len]
theorem cmF_cells (x : CM) : cmCells (cmF x) = cmCells x := by unfold cmCells cmF; rw [srt_len]
theorem cmB_cells (x : CM) : cmCells (cmB x) = cmCells x := by unfold cmCells cmB; rw [srt_len]
theorem ce_done {s : Sc} {es : List CE} (h : es.map CE.ce_e = s.enums) : ((sortT (gtS (fun x : CE => x.ce_e.name)) es).map ceS).map CE.ce_e = sortT (gtS En.name) (s.enums.map sortEn) := by
 rw [List.map_map, show (CE.ce_e ∘ ceS) = (sortEn ∘ CE.ce_e) from rfl, ← List.map_map, srt_map (f := CE.ce_e) (gt := gtS fun x : CE => x.ce_e.name) (gt' := gtS En.name) (fun _ _ => rfl), h, srt_map (f := sortEn) (gt := gtS En.name) (gt' := gtS En.name) (fun _ _ => rfl)]
theorem cm_done {s : Sc} {ms : List CM} (h : ms.map CM.cm_m = s.msgs) : ((ms.take 1 ++ sortT (gtS (fun x : CM => x.cm_m.name)) (ms.drop 1)).map fun x => cmB (cmF x)).map CM.cm_m = sortMsgs s.msgs := by
 rw [← h, List.map_map, show (CM.cm_m ∘ fun x => cmB (cmF x)) = (sortMs ∘ CM.cm_m) from rfl, ← List.map_map]
 cases ms with
 | nil => rfl
 | cons m r =>
   show sortMs m.cm_m :: ((sortT (gtS (fun x : CM => x.cm_m.name)) r).map CM.cm_m).map sortMs = sortMs m.cm_m :: sortT (gtS Ms.name) ((r.map CM.cm_m).map sortMs)
   rw [srt_map (f := CM.cm_m) (gt := gtS fun x : CM => x.cm_m.name) (gt' := gtS Ms.name) (fun _ _ => rfl), srt_map (f := sortMs) (gt := gtS Ms.name) (gt' := gtS Ms.name) (fun _ _ => rfl)]
theorem AptA.symm {A B : Option Addr} (h : AptA A B) : AptA B A := fun p q e1 e2 e3 => h q p e2 e1 e3.symm
theorem EnOwn.perm {base : Nat} {w : World} {es fs : List CE} (h : EnOwn base w es) (hp : fs.Perm es) : EnOwn base w fs := ⟨fun y hy => h.eo_v y (hp.mem_iff.mp hy), (hp.pairwise_iff (fun h => h.symm)).mpr h.eo_p⟩
theorem MsOwn.perm {base : Nat} {w : World} {es fs : List CM} (h : MsOwn base w es) (hp : fs.Perm es) : MsOwn base w fs := ⟨fun y hy => h.mo_f y (hp.mem_iff.mp hy), fun y hy => h.mo_b y (hp.mem_iff.mp hy), (hp.pairwise_iff (fun h => h.symm)).mpr h.mo_p, (hp.pairwise_iff (fun h => h.symm)).mpr h.mo_q⟩
/-- One list of a row is put in order in its own block: the others stay. -/
theorem apt_keep {w w' : World} {base k n c : Nat} {t : TypeId} {A B : Option Addr} {m d : Nat} {xs : List Value} (h : w.ownsRow base t k (.slice A n c) n xs) (hg : w.grownBy w' (Value.slice B m d).ownBlock) (ha : AptA A B) : w'.ownsRow base t k (.slice A n c) n xs :=
 own_block h fun q hq => by
  obtain ⟨_, cs, hc⟩ := own_typed h hq
  refine hg.block q (lt_of_block hc) fun e => ?_
  cases A with
  | none => cases hq
  | some p =>
    cases B with
    | none => cases e
    | some p2 => exact ha p p2 rfl rfl (by simp [Value.ownBlock] at hq e; omega)

/-- One enum's values are in order. -/
theorem EnOwn.sorted {base : Nat} {w w' : World} {pre post : List CE} {x : CE} (h : EnOwn base w (pre ++ x :: post)) (hx : w'.ownsRow base 67 2 (.slice x.ce_a x.ce_e.values.length x.ce_c) x.ce_e.values.length ((sortT (gtN Vl.num) x.ce_e.values).flatMap vlCells))
 (hg : w.grownBy w' (Value.slice x.ce_a x.ce_e.values.length x.ce_c).ownBlock) : EnOwn base w' (pre ++ ceS x :: post) := by
 have hp := h.eo_p
 rw [List.pairwise_append, List.pairwise_cons] at hp
 obtain ⟨p1, ⟨p2, p3⟩, p4⟩ := hp
 refine ⟨fun y hy => ?_, List.pairwise_append.mpr ⟨p1, List.pairwise_cons.mpr ⟨p2, p3⟩, fun a ha b hb => ?_⟩⟩
 ·rcases List.mem_append.mp hy with hy | hy
  ·exact apt_keep (h.eo_v y (List.mem_append_left _ hy)) hg (p4 y hy x List.mem_cons_self)
  ·rcases List.mem_cons.mp hy with rfl | hy
   ·show w'.ownsRow base _ 2 (.slice x.ce_a (sortT (gtN Vl.num) x.ce_e.values).length x.ce_c) (sortT (gtN Vl.num) x.ce_e.values).length _
    rw [srt_len]
    exact hx
   ·exact apt_keep (h.eo_v y (List.mem_append_right _ (List.mem_cons_of_mem _ hy))) hg (p2 y hy).symm
 ·rcases List.mem_cons.mp hb with rfl | hb
  ·exact p4 a ha x List.mem_cons_self
  ·exact p4 a ha b (List.mem_cons_of_mem _ hb)
theorem MsOwn.fields {base : Nat} {w w' : World} {pre post : List CM} {x : CM} (h : MsOwn base w (pre ++ x :: post)) (hx : w'.ownsRow base 70 7 (.slice x.cm_a x.cm_m.fields.length x.cm_c) x.cm_m.fields.length ((sortT (gtN Fd.num) x.cm_m.fields).flatMap fdCells))
 (hg : w.grownBy w' (Value.slice x.cm_a x.cm_m.fields.length x.cm_c).ownBlock) : MsOwn base w' (pre ++ cmF x :: post) := by
 have hp := h.mo_p
 have hq := h.mo_q
 rw [List.pairwise_append, List.pairwise_cons] at hp hq
 obtain ⟨p1, ⟨p2, p3⟩, p4⟩ := hp
 obtain ⟨q1, ⟨q2, q3⟩, q4⟩ := hq
 have hk := kp_grown (e := 3) (h.mo_f x (by simp)) hg (by decide)
 refine ⟨fun y hy => ?_, fun y hy => ?_, List.pairwise_append.mpr ⟨p1, List.pairwise_cons.mpr ⟨p2, p3⟩, fun a ha b hb => ?_⟩, List.pairwise_append.mpr ⟨q1, List.pairwise_cons.mpr ⟨q2, q3⟩, fun a ha b hb => ?_⟩⟩
 ·rcases List.mem_append.mp hy with hy | hy
  ·exact apt_keep (h.mo_f y (List.mem_append_left _ hy)) hg (p4 y hy x List.mem_cons_self)
  ·rcases List.mem_cons.mp hy with rfl | hy
   ·show w'.ownsRow base _ 7 (.slice x.cm_a (sortT (gtN Fd.num) x.cm_m.fields).length x.cm_c) (sortT (gtN Fd.num) x.cm_m.fields).length _
    rw [srt_len]
    exact hx
   ·exact apt_keep (h.mo_f y (List.mem_append_right _ (List.mem_cons_of_mem _ hy))) hg (p2 y hy).symm
 ·rcases List.mem_append.mp hy with hy | hy
  ·exact own_else (h.mo_b y (List.mem_append_left _ hy)) hk
  ·rcases List.mem_cons.mp hy with rfl | hy
   ·exact own_else (h.mo_b x (by simp)) hk
   ·exact own_else (h.mo_b y (List.mem_append_right _ (List.mem_cons_of_mem _ hy))) hk
 ·rcases List.mem_cons.mp hb with rfl | hb
  ·exact p4 a ha x List.mem_cons_self
  ·exact p4 a ha b (List.mem_cons_of_mem _ hb)
 ·rcases List.mem_cons.mp hb with rfl | hb
  ·exact q4 a ha x List.mem_cons_self
  ·exact q4 a ha b (List.mem_cons_of_mem _ hb)
theorem MsOwn.barred {base : Nat} {w w' : World} {pre post : List CM} {x : CM} (h : MsOwn base w (pre ++ x :: post)) (hx : w'.ownsRow base 3 1 (.slice x.cm_b x.cm_m.barred.length x.cm_d) x.cm_m.barred.length ((sortT (gtN id) x.cm_m.barred).flatMap inCells))
 (hg : w.grownBy w' (Value.slice x.cm_b x.cm_m.barred.length x.cm_d).ownBlock) : MsOwn base w' (pre ++ cmB x :: post) := by
 have hp := h.mo_p
 have hq := h.mo_q
 rw [List.pairwise_append, List.pairwise_cons] at hp hq
 obtain ⟨p1, ⟨p2, p3⟩, p4⟩ := hp
 obtain ⟨q1, ⟨q2, q3⟩, q4⟩ := hq
 have hk := kp_grown (e := 70) (h.mo_b x (by simp)) hg (by decide)
 refine ⟨fun y hy => ?_, fun y hy => ?_, List.pairwise_append.mpr ⟨p1, List.pairwise_cons.mpr ⟨p2, p3⟩, fun a ha b hb => ?_⟩, List.pairwise_append.mpr ⟨q1, List.pairwise_cons.mpr ⟨q2, q3⟩, fun a ha b hb => ?_⟩⟩
 ·rcases List.mem_append.mp hy with hy | hy
  ·exact own_else (h.mo_f y (List.mem_append_left _ hy)) hk
  ·rcases List.mem_cons.mp hy with rfl | hy
   ·exact own_else (h.mo_f x (by simp)) hk
   ·exact own_else (h.mo_f y (List.mem_append_right _ (List.mem_cons_of_mem _ hy))) hk
 ·rcases List.mem_append.mp hy with hy | hy
  ·exact apt_keep (h.mo_b y (List.mem_append_left _ hy)) hg (q4 y hy x List.mem_cons_self)
  ·rcases List.mem_cons.mp hy with rfl | hy
   ·show w'.ownsRow base _ 1 (.slice x.cm_b (sortT (gtN id) x.cm_m.barred).length x.cm_d) (sortT (gtN id) x.cm_m.barred).length _
    rw [srt_len]
    exact hx
   ·exact apt_keep (h.mo_b y (List.mem_append_right _ (List.mem_cons_of_mem _ hy))) hg (q2 y hy).symm
 ·rcases List.mem_cons.mp hb with rfl | hb
  ·exact p4 a ha x List.mem_cons_self
  ·exact p4 a ha b (List.mem_cons_of_mem _ hb)
 ·rcases List.mem_cons.mp hb with rfl | hb
  ·exact q4 a ha x List.mem_cons_self
  ·exact q4 a ha b (List.mem_cons_of_mem _ hb)
theorem zs_in (l : List Int) : zs l = l.flatMap inCells := by
 induction l with
 | nil => rfl
 | cons x r ih => rw [List.flatMap_cons, ← ih]; rfl

section
variable {base n cap n2 cap2 : Nat} {w w' : World} {A A2 : Option Addr} {es fs pre post : List CE} {ms ns mre mst : List CM} {x : CE} {y : CM}
theorem cp_enums (h : CpOwn base w A n cap A2 n2 cap2 es ms) (hx : w'.ownsRow base 47 2 (.slice A n cap) n (fs.flatMap ceCells)) (hp : fs.Perm es) (hg : w.grownBy w' (Value.slice A n cap).ownBlock) : CpOwn base w' A n cap A2 n2 cap2 fs ms :=
 ⟨hx, own_else h.co_m (kp_grown h.co_e hg (by decide)), (h.co_v.keep (kp_grown h.co_e hg (by decide))).perm hp, h.co_f.keep (kp_grown h.co_e hg (by decide)) (kp_grown h.co_e hg (by decide))⟩
theorem cp_msgs (h : CpOwn base w A n cap A2 n2 cap2 es ms) (hx : w'.ownsRow base 43 3 (.slice A2 n2 cap2) n2 (ns.flatMap cmCells)) (hp : ns.Perm ms) (hg : w.grownBy w' (Value.slice A2 n2 cap2).ownBlock) : CpOwn base w' A n cap A2 n2 cap2 es ns :=
 ⟨own_else h.co_e (kp_grown h.co_m hg (by decide)), hx, h.co_v.keep (kp_grown h.co_m hg (by decide)), (h.co_f.keep (kp_grown h.co_m hg (by decide)) (kp_grown h.co_m hg (by decide))).perm hp⟩
theorem cp_vals (h : CpOwn base w A n cap A2 n2 cap2 (pre ++ x :: post) ms) (hx : w'.ownsRow base 67 2 (.slice x.ce_a x.ce_e.values.length x.ce_c) x.ce_e.values.length ((sortT (gtN Vl.num) x.ce_e.values).flatMap vlCells))
 (hg : w.grownBy w' (Value.slice x.ce_a x.ce_e.values.length x.ce_c).ownBlock) : CpOwn base w' A n cap A2 n2 cap2 (pre ++ ceS x :: post) ms := by
 have hk := h.co_v.eo_v x (by simp)
 refine ⟨?_, own_else h.co_m (kp_grown hk hg (by decide)), h.co_v.sorted hx hg, h.co_f.keep (kp_grown hk hg (by decide)) (kp_grown hk hg (by decide))⟩
 have := own_else h.co_e (kp_grown hk hg (by decide))
 rw [List.flatMap_append, List.flatMap_cons] at this ⊢
 rw [ceS_cells]
 exact this
theorem cp_flds (h : CpOwn base w A n cap A2 n2 cap2 es (mre ++ y :: mst)) (hx : w'.ownsRow base 70 7 (.slice y.cm_a y.cm_m.fields.length y.cm_c) y.cm_m.fields.length ((sortT (gtN Fd.num) y.cm_m.fields).flatMap fdCells))
 (hg : w.grownBy w' (Value.slice y.cm_a y.cm_m.fields.length y.cm_c).ownBlock) : CpOwn base w' A n cap A2 n2 cap2 es (mre ++ cmF y :: mst) := by
 have hk := h.co_f.mo_f y (by simp)
 refine ⟨own_else h.co_e (kp_grown hk hg (by decide)), ?_, h.co_v.keep (kp_grown hk hg (by decide)), h.co_f.fields hx hg⟩
 have := own_else h.co_m (kp_grown hk hg (by decide))
 rw [List.flatMap_append, List.flatMap_cons] at this ⊢
 rw [cmF_cells]
 exact this
theorem cp_bars (h : CpOwn base w A n cap A2 n2 cap2 es (mre ++ y :: mst)) (hx : w'.ownsRow base 3 1 (.slice y.cm_b y.cm_m.barred.length y.cm_d) y.cm_m.barred.length (zs (sortT (gtN id) y.cm_m.barred)))
 (hg : w.grownBy w' (Value.slice y.cm_b y.cm_m.barred.length y.cm_d).ownBlock) : CpOwn base w' A n cap A2 n2 cap2 es (mre ++ cmB y :: mst) := by
 have hk := h.co_f.mo_b y (by simp)
 rw [zs_in] at hx
 refine ⟨own_else h.co_e (kp_grown hk hg (by decide)), ?_, h.co_v.keep (kp_grown hk hg (by decide)), h.co_f.barred hx hg⟩
 have := own_else h.co_m (kp_grown hk hg (by decide))
 rw [List.flatMap_append, List.flatMap_cons] at this ⊢
 rw [cmB_cells]
 exact this
end
theorem cp_less {base b n cap n2 cap2 : Nat} {w : World} {A A2 : Option Addr} {es : List CE} {ms : List CM} (h : CpOwn base w A n cap A2 n2 cap2 es ms) (hb : b ≤ base) : CpOwn b w A n cap A2 n2 cap2 es ms := ⟨own_less h.co_e hb, own_less h.co_m hb, h.co_v.less hb, h.co_f.less hb⟩
/-- The copy in its box, the answer's box, and what was there. -/
structure SdAt (w u : World) (B : Option Addr) (n cb : Nat) (B2 : Option Addr) (n2 cb2 : Nat) (es : List CE) (ms : List CM) : Prop where
 sd_bx : u.heap[w.heap.size]? = some (.cells #[.slice B n cb, .slice B2 n2 cb2] 26 (0, 0))
 sd_rs : u.heap[w.heap.size + 1]? = some (.cells #[.slice none 0 0, .slice none 0 0] 26 (0, 0))
 sd_own : CpOwn w.heap.size u B n cb B2 n2 cb2 es ms
 sd_bel : Below w.heap.size w u
section
variable {w u u' : World} {B B2 : Option Addr} {n cb n2 cb2 : Nat} {es fs : List CE} {ms ns : List CM}
theorem sd_more (h : SdAt w u B n cb B2 n2 cb2 es ms) (hb : Below u.heap.size u u') : SdAt w u' B n cb B2 n2 cb2 es ms :=
 ⟨(kp_below hb _ _ h.sd_bx).trans h.sd_bx, (kp_below hb _ _ h.sd_rs).trans h.sd_rs, ⟨own_below h.sd_own.co_e hb, own_below h.sd_own.co_m hb, h.sd_own.co_v.keep (kp_below hb), h.sd_own.co_f.keep (kp_below hb) (kp_below hb)⟩, h.sd_bel.trans (hb.mono h.sd_bel.size)⟩
theorem sd_put {t : TypeId} {k m : Nat} {v : Value} {xs : List Value} (h : SdAt w u B n cb B2 n2 cb2 es ms) (ho : u.ownsRow w.heap.size t k v m xs) (hne : t ≠ 26) (hg : u.grownBy u' v.ownBlock) (hn : CpOwn w.heap.size u' B n cb B2 n2 cb2 fs ns) : SdAt w u' B n cb B2 n2 cb2 fs ns :=
 ⟨(kp_grown ho hg hne _ _ h.sd_bx).trans h.sd_bx, (kp_grown ho hg hne _ _ h.sd_rs).trans h.sd_rs, hn, h.sd_bel.grown hg h.sd_bel.size (fun k hk => (ho.lt k hk).1)⟩
end

theorem ce_at {w : World} {base n c i : Nat} {A : Option Addr} {l : List CE} {x : CE} (h : w.ownsRow base 47 2 (.slice A n c) n (l.flatMap ceCells)) (hi : l[i]? = some x) : ∃ g off, A = some ⟨g, off, none⟩ ∧ w.cell? ⟨g, off + i * 2, none⟩ = some (.string (strOf x.ce_e.name)) ∧ w.cell? ⟨g, off + i * 2 + 1, none⟩ = some (.slice x.ce_a x.ce_e.values.length x.ce_c) := by
 obtain ⟨_, Al, capl, hvl, hsl⟩ := lst_own_typed (k := 2) (f := ceCells) (R := fun _ cs (x : CE) => cs = ceCells x) (by decide) (fun _ => rfl) (fun _ _ => rfl) h
 cases hvl
 obtain ⟨g, off, cs, e, hs, _, rfl, hc⟩ := hsl.l_at i x hi
 exact ⟨g, off, e, hc 0 _ rfl, hc 1 _ rfl⟩
theorem cm_at {w : World} {base n c i : Nat} {A : Option Addr} {l : List CM} {x : CM} (h : w.ownsRow base 43 3 (.slice A n c) n (l.flatMap cmCells)) (hi : l[i]? = some x) : ∃ g off, A = some ⟨g, off, none⟩ ∧ w.cell? ⟨g, off + i * 3, none⟩ = some (.string (strOf x.cm_m.name)) ∧ w.cell? ⟨g, off + i * 3 + 1, none⟩ = some (.slice x.cm_a x.cm_m.fields.length x.cm_c) ∧ w.cell? ⟨g, off + i * 3 + 2, none⟩ = some (.slice x.cm_b x.cm_m.barred.length x.cm_d) := by
 obtain ⟨_, Al, capl, hvl, hsl⟩ := lst_own_typed (k := 3) (f := cmCells) (R := fun _ cs (x : CM) => cs = cmCells x) (by decide) (fun _ => rfl) (fun _ _ => rfl) h
 cases hvl
 obtain ⟨g, off, cs, e, hs, _, rfl, hc⟩ := hsl.l_at i x hi
 exact ⟨g, off, e, hc 0 _ rfl, hc 1 _ rfl, hc 2 _ rfl⟩
theorem midw_at {α : Type} {f : α → α} {l : List α} {i : Nat} {x : α} (hx : l[i]? = some x) : (l.take i).map f ++ l.drop i = (l.take i).map f ++ x :: l.drop (i + 1) ∧ ((l.take i).map f ++ x :: l.drop (i + 1))[i]? = some x ∧ (l.take (i + 1)).map f ++ l.drop (i + 1) = (l.take i).map f ++ f x :: l.drop (i + 1) := by
 obtain ⟨hi, e⟩ := List.getElem?_eq_some_iff.mp hx
 refine ⟨by rw [List.drop_eq_getElem_cons hi, e], ?_, ?_⟩
 ·rw [List.getElem?_append_right (by simp; omega)]
  simp [Nat.min_eq_left (Nat.le_of_lt hi)]
 ·rw [split_take hx, List.map_append, List.append_assoc]
  rfl

set_option maxHeartbeats 8000000 in
theorem stsorted_any {S : Nat → Nat → Prop} (w : World) {A A2 : Option Addr} {n cap n2 cap2 : Nat} {s : Sc} (h : ScAt S w A n cap A2 n2 cap2 s) (hs : Fits s) (he : n < 20) (hm : n2 < 20) (hv : ∀ e ∈ s.enums, e.values.length < 20) (hf : ∀ m ∈ s.msgs, m.fields.length < 20) :
 Calls Tryz.prog 14 #[.agg #[.slice A n cap, .slice A2 n2 cap2]] w fun e w' => ∃ B1 c1 B2 c2, e = .returned (.agg #[.slice B1 n c1, .slice B2 n2 c2]) ∧ ScAt (fun _ g => w.heap.size ≤ g) w' B1 n c1 B2 n2 c2 (sortedS s) ∧ Below w.heap.size w w' := by
 have HC := Lib.hid (fun u (hb : Below w.heap.size w u) => scopy_own u (scAt_bel h hb) hs)
 have HBX := Lib.hid (bx2_start w #[.slice A n cap, .slice A2 n2 cap2] #[.slice none 0 0, .slice none 0 0] 26 26)
 have r0 := obj_cell (HBX.out).b2_one 0
 have r1 := obj_cell (HBX.out).b2_one 1
 have HE := Lib.hid he
 have HM := Lib.hid hm
 have HV := Lib.hid hv
 have HF := Lib.hid hf
 have HZ : Hid (∀ m ∈ s.msgs, m.barred.length ≤ 1000000) := Lib.hid (fun m hm => by have := (hs.f_m m hm).2.2.2; omega)
 clear h hs he hm hv hf
 go_enter Tryz.func14, Tryz.ntmps14
 go_wp2_with (first
  | (go_at_call 36; refine (HC.out _ HBX.out.b2_bel).mono ?_; clear r0 r1; rintro e w2 ⟨B, cb, B2, cb2, es, ms, rfl, ho, hes, hms, hb⟩; have HOW : Hid (CpOwn w.heap.size w2 B n cb B2 n2 cb2 es ms) := Lib.hid (cp_less ho HBX.out.b2_bel.size); have HES := Lib.hid hes; have HMS := Lib.hid hms; replace HBX := Lib.hid (bx2_step HBX.out hb); have e0 := obj_set HBX.out.b2_one 0 (.slice B n cb); have e1 := obj_set e0 1 (.slice B2 n2 cb2); have r0 := obj_cell (HBX.out).b2_one 0; have r1 := obj_cell (HBX.out).b2_one 1; have f0 := obj_free (HBX.out).b2_one 0; have f1 := obj_free (HBX.out).b2_one 1; have d0 := obj_cell e1 0; have d1 := obj_cell e1 1; have HE1 := Lib.hid e1;  have HE0 := Lib.hid e0; clear e0 e1 ho hes hms hb)
  | (go_at_call 37
     have hsd : SdAt w _ B n cb B2 n2 cb2 es ms := ⟨HE1.out, set_else (set_else HBX.out.b2_two (by show w.heap.size + 1 ≠ w.heap.size; omega)) (by show w.heap.size + 1 ≠ w.heap.size; omega), ⟨own_else HOW.out.co_e (kp_trans (kp_set HBX.out.b2_one (by decide)) (kp_set HE0.out (by decide))), own_else HOW.out.co_m (kp_trans (kp_set HBX.out.b2_one (by decide)) (kp_set HE0.out (by decide))), HOW.out.co_v.keep (kp_trans (kp_set HBX.out.b2_one (by decide)) (kp_set HE0.out (by decide))), HOW.out.co_f.keep (kp_trans (kp_set HBX.out.b2_one (by decide)) (kp_set HE0.out (by decide))) (kp_trans (kp_set HBX.out.b2_one (by decide)) (kp_set HE0.out (by decide)))⟩, (HBX.out.b2_bel.setCell (p := ⟨w.heap.size, 0, none⟩) (Nat.le_refl _) _).setCell (p := ⟨w.heap.size, 1, none⟩) (Nat.le_refl _) _⟩
     refine (rse_en hsd.sd_own.co_e HE.out).mono ?_
     rintro e w3 ⟨rfl, ho, hg⟩
     have HSD := Lib.hid (sd_put hsd hsd.sd_own.co_e (by decide) hg (cp_enums hsd.sd_own ho (srt_perm _ _) hg))
     clear hsd ho hg r0 r1 f0 f1 d0 d1 HE1 HE0 HOW HBX
     have d0 := obj_cell HSD.out.sd_bx 0
     have d1 := obj_cell HSD.out.sd_bx 1)
  | (go_at_call 39
     have hc := rse_ms HSD.out.sd_own.co_m HM.out
     obtain ⟨BB, hBB⟩ : ∃ b, b = (if cb2 = (min 1 (n2 : Int)).toNat then B2 else Option.map (fun x => x.add ((min 1 (n2 : Int)).toNat * 3)) B2) := ⟨_, rfl⟩
     rw [← hBB] at hc ⊢
     clear hBB
     refine hc.mono ?_
     clear hc
     rintro e w4 ⟨rfl, ho, hg⟩
     replace HSD := Lib.hid (sd_put HSD.out HSD.out.sd_own.co_m (by decide) hg (cp_msgs HSD.out.sd_own ho (cut_perm _ _) hg))
     clear ho hg d0 d1
     have d0 := obj_cell HSD.out.sd_bx 0
     have d1 := obj_cell HSD.out.sd_bx 1))
 obtain ⟨es1, hes1⟩ : ∃ es1, es1 = sortT (gtS fun x : CE => x.ce_e.name) es := ⟨_, rfl⟩
 obtain ⟨ms1, hms1⟩ : ∃ ms1, ms1 = ms.take 1 ++ sortT (gtS fun x : CM => x.cm_m.name) (ms.drop 1) := ⟨_, rfl⟩
 rw [← hes1, ← hms1] at HSD
 have HS1 := Lib.hid (And.intro hes1 hms1)
 have hlen := cp_len HSD.out.sd_own
 have HLE := Lib.hid hlen.1
 have HLM := Lib.hid hlen.2
 clear hes1 hms1 hlen d0 d1
 have HSD1 := HSD
 go_loopg [23] n (fun gz y wr => ∃ i : Nat, y = .int .i64 (i : Int) ∧ i + gz = n ∧ SdAt w wr B n cb B2 n2 cb2 ((es1.take i).map ceS ++ es1.drop i) ms1)
 case atStart => exact ⟨0, rfl, by omega, HSD.out⟩
 case round =>
  obtain ⟨i, rfl, hi, hsd⟩ := hrel
  clear HSD HSD1
  have HSD := Lib.hid hsd
  clear hsd
  by_cases hlt : i < n
  ·have ti : decide ((i : Int) < (n : Int)) = true := decide_eq_true (by omega)
   obtain ⟨x, hx⟩ : ∃ x, es1[i]? = some x := ⟨_, List.getElem?_eq_getElem (by have := HLE.out; omega)⟩
   obtain ⟨k1, k2, k3⟩ := midw_at (f := ceS) hx
   have hxb : x.ce_e.values.length < 20 := HV.out _ (by rw [← HES.out]; exact List.mem_map.mpr ⟨x, (srt_perm _ _).mem_iff.mp (by rw [← HS1.out.1]; exact List.mem_of_getElem? hx), rfl⟩)
   have hsd := HSD.out
   rw [k1] at hsd
   obtain ⟨ge, oe, hB, c0, c1⟩ := ce_at hsd.sd_own.co_e k2
   subst hB
   have q1 : n ≤ cb := (own_cap hsd.sd_own.co_e).1
   have q2 := HE.out
   have HSD2 := Lib.hid hsd
   have HK3 := Lib.hid k3
   have HXB := Lib.hid hxb
   obtain ⟨sn, hsn⟩ : ∃ sn, sn = strOf x.ce_e.name := ⟨_, rfl⟩
   rw [← hsn] at c0
   clear hx k1 k2 k3 hxb hsd hsn
   go_wp2_with (go_at_call 41; have hs2 := sd_more HSD2.out (box_up2 wr (.cells #[.string sn, .slice x.ce_a x.ce_e.values.length x.ce_c] 47)); refine (rse_vl (hs2.sd_own.co_v.eo_v x (by simp)) HXB.out).mono ?_; rintro e w5 ⟨rfl, ho, hg⟩; have HSN := Lib.hid (sd_put hs2 (hs2.sd_own.co_v.eo_v x (by simp)) (by decide) hg (cp_vals hs2.sd_own ho hg)); clear hs2 ho hg)
   go_roundg (gk - 1)
   case measure => omega
   case rel => exact ⟨i + 1, by go_num, by omega, by rw [HK3.out]; exact HSN.out⟩
  ·have ti : decide ((i : Int) < (n : Int)) = false := decide_eq_false (by omega)
   have hsd := HSD.out
   rw [List.take_of_length_le (by have := HLE.out; omega), List.drop_of_length_le (by have := HLE.out; omega), List.append_nil] at hsd
   clear HSD
   have HSD := Lib.hid hsd
   have d0 := obj_cell hsd.sd_bx 0
   have d1 := obj_cell hsd.sd_bx 1
   clear hsd
   go_wp2
   clear d0 d1
   go_loopg [34] n2 (fun gz y wr => ∃ i : Nat, y = .int .i64 (i : Int) ∧ i + gz = n2 ∧ SdAt w wr B n cb B2 n2 cb2 (es1.map ceS) ((ms1.take i).map (fun x => cmB (cmF x)) ++ ms1.drop i))
   case atStart => exact ⟨0, rfl, by omega, HSD.out⟩
   case round =>
    clear HSD hi
    obtain ⟨i, rfl, hi, hsd⟩ := hrel
    have HSD := Lib.hid hsd
    clear hsd
    by_cases hlt : i < n2
    ·have ti : decide ((i : Int) < (n2 : Int)) = true := decide_eq_true (by omega)
     obtain ⟨x, hx⟩ : ∃ x, ms1[i]? = some x := ⟨_, List.getElem?_eq_getElem (by have := HLM.out; omega)⟩
     obtain ⟨k1, k2, k3⟩ := midw_at (f := fun x => cmB (cmF x)) hx
     have hmem : x.cm_m ∈ s.msgs := by rw [← HMS.out]; exact List.mem_map.mpr ⟨x, (cut_perm _ _).mem_iff.mp (by rw [← HS1.out.2]; exact List.mem_of_getElem? hx), rfl⟩
     have hxb := HF.out _ hmem
     have hxz := HZ.out _ hmem
     have hsd := HSD.out
     rw [k1] at hsd
     obtain ⟨ge, oe, hB, c0, c1, c2⟩ := cm_at hsd.sd_own.co_m k2
     subst hB
     have q1 : n2 ≤ cb2 := (own_cap hsd.sd_own.co_m).1
     have q2 := HM.out
     have HSD2 := Lib.hid hsd
     have HK3 := Lib.hid k3
     have HXB := Lib.hid hxb
     have HXZ := Lib.hid hxz
     obtain ⟨sn, hsn⟩ : ∃ sn, sn = strOf x.cm_m.name := ⟨_, rfl⟩
     rw [← hsn] at c0
     clear hx k1 k2 k3 hxb hxz hsd hsn hmem HSD
     go_wp2_with (first
      | (go_at_call 43
         have hs2 := sd_more HSD2.out (box_up2 wr (.cells #[.string sn, .slice x.cm_a x.cm_m.fields.length x.cm_c, .slice x.cm_b x.cm_m.barred.length x.cm_d] 43))
         refine (rse_fd (hs2.sd_own.co_f.mo_f x (by simp)) HXB.out).mono ?_
         rintro e w5 ⟨rfl, ho, hg⟩
         have HSN := Lib.hid (sd_put hs2 (hs2.sd_own.co_f.mo_f x (by simp)) (by decide) hg (cp_flds hs2.sd_own ho hg))
         have hbox := (kp_grown (e := 43) (hs2.sd_own.co_f.mo_f x (by simp)) hg (by decide) _ _ (heap_alloc_new wr _)).trans (heap_alloc_new wr _)
         have b0 := obj_cell hbox 0
         have b1 := obj_cell hbox 1
         have b2 := obj_cell hbox 2
         clear hs2 ho hg hbox)
      | (go_at_call 45
         have hk := HSN.out.sd_own.co_f.mo_b (cmF x) (by simp)
         have hk2 := hk
         rw [← zs_in] at hk2
         refine (sort_zs _ hk2 HXZ.out).mono ?_
         rintro e w6 ⟨rfl, ho, hg⟩
         have HSP := Lib.hid (sd_put HSN.out hk (by decide) hg (cp_bars HSN.out.sd_own ho hg))
         clear hk hk2 ho hg b0 b1 b2))
     go_roundg (gk - 1)
     case measure => omega
     case rel => exact ⟨i + 1, by go_num, by omega, by rw [HK3.out]; exact HSP.out⟩
    ·have ti : decide ((i : Int) < (n2 : Int)) = false := decide_eq_false (by omega)
     have hsd := HSD.out
     rw [List.take_of_length_le (by have := HLM.out; omega), List.drop_of_length_le (by have := HLM.out; omega), List.append_nil] at hsd
     clear HSD
     have HSD := Lib.hid hsd
     have d0 := obj_cell hsd.sd_bx 0
     have d1 := obj_cell hsd.sd_bx 1
     have z0 := obj_cell hsd.sd_rs 0
     have z1 := obj_cell hsd.sd_rs 1
     have y0 := obj_free hsd.sd_rs 0
     have y1 := obj_free hsd.sd_rs 1
     have e0 := obj_set hsd.sd_rs 0 (.slice B n cb)
     have e1 := obj_set e0 1 (.slice B2 n2 cb2)
     have v0 := obj_cell e1 0
     have v1 := obj_cell e1 1
     have HE0 := Lib.hid e0
     clear hsd e0 e1
     go_wp2
     refine bodyPost_ret (v := .agg #[.slice B n cb, .slice B2 n2 cb2]) ?_ rfl ⟨B, cb, B2, cb2, rfl, ?_, ?_⟩
     ·have hres : Tryz.f14.results = #[.cell 2 26] := by kernel_rfl
      simp only [results, hres]
      go_simp
     ·have hk : ∀ t, t ≠ 26 → Kp t wr ((wr.setCell ⟨w.heap.size + 1, 0, none⟩ (.slice B n cb)).setCell ⟨w.heap.size + 1, 1, none⟩ (.slice B2 n2 cb2)) := fun t ht => kp_trans (kp_set HSD.out.sd_rs (Ne.symm ht)) (kp_set HE0.out (Ne.symm ht))
      have ho := HSD.out.sd_own
      have hc : CpOwn w.heap.size ((wr.setCell ⟨w.heap.size + 1, 0, none⟩ (.slice B n cb)).setCell ⟨w.heap.size + 1, 1, none⟩ (.slice B2 n2 cb2)) B n cb B2 n2 cb2 (es1.map ceS) (ms1.map fun x => cmB (cmF x)) := ⟨own_else ho.co_e (hk _ (by decide)), own_else ho.co_m (hk _ (by decide)), ho.co_v.keep (hk _ (by decide)), ho.co_f.keep (hk _ (by decide)) (hk _ (by decide))⟩
      exact scAt_wide (cp_at hc (by rw [HS1.out.1]; exact ce_done HES.out) (by rw [HS1.out.2]; exact cm_done HMS.out)) (Nat.le_refl _)
     ·exact (HSD.out.sd_bel.setCell (p := ⟨w.heap.size + 1, 0, none⟩) (Nat.le_succ _) _).setCell (p := ⟨w.heap.size + 1, 1, none⟩) (Nat.le_succ _) _
end Go.Proofs.YtcjjphioeneiiaaGreatDoor
