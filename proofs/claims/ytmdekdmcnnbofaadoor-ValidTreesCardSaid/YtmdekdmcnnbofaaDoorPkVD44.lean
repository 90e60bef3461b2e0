/- Several texts in one: VdL, VdT, VdV, VdX. What each proves, and its conditions, stands at its own head. -/
import Derived.Test.YtmdekdmcnnbofaaDoorPkVD43
import Derived.Test.YtmdekdmcnnbofaaDoorPkVD41
import Derived.Test.YtmdekdmcnnbofaaDoorPkVD27
import Derived.Test.YtmdekdmcnnbofaaDoorPkVD30
import Derived.Test.YtmdekdmcnnbofaaDoorPkVD37
/- Layer 20: the page's example ('live'); which trees are a message's values, the law's walk. Conditions: VdEnv; those that each theorem names. -/
namespace Go.Proofs.YtmdekdmcnnbofaaDoor
open Go.RowKit
set_option linter.unusedVariables false
set_option maxRecDepth 100000

def allocs (w : World) : List Obj → World
  | [] => w
  | o :: r => allocs (w.alloc o) r
theorem allocs_bel : ∀ (l : List Obj) (w : World), Below w.heap.size w (allocs w l)
  | [], w => Below.refl _ _
  | o :: r, w => vbel ((Below.refl _ w).alloc (Nat.le_refl _) o) (allocs_bel r (w.alloc o))
theorem allocs_at : ∀ (l : List Obj) (w : World) (i : Nat) (cs : Array Value) (t : TypeId), l[i]? = some (.cells cs t) → (allocs w l).heap[w.heap.size + i]? = some (.cells cs t (0, 0))
  | [], w, i, cs, t, h => by simp at h
  | o :: r, w, 0, cs, t, h => by
    simp at h
    subst h
    exact ((allocs_bel r _).block _ (by simp)).trans (heap_alloc_new w _)
  | o :: r, w, i + 1, cs, t, h => by
    have := allocs_at r (w.alloc o) i cs t (by simpa using h)
    rw [World.size_alloc] at this
    rw [show w.heap.size + (i + 1) = w.heap.size + 1 + i by omega]
    exact this
/-- A list that lies in a block of its own, whole. -/
theorem vd_block {α : Type} {k : Nat} {S : Nat → Prop} {R : World → List Value → α → Prop} {w : World} {g : Nat} {cs : Array Value} {t : TypeId} {l : List α} {f : α → List Value} (h : w.heap[g]? = some (.cells cs t (0, 0))) (hc : cs.toList = l.flatMap f) (hf : ∀ x, (f x).length = k) (hR : ∀ x ∈ l, R w (f x) x) (hS : S g) (hm : l.length ≤ maxLen) :
    Lst k S R w (some ⟨g, 0, none⟩) l.length l :=
  ⟨Nat.le_refl _, hm, (fun e => by cases e), fun j x hj => ⟨g, 0, f x, rfl, hS, hf x, hR x (List.mem_of_getElem? hj), fun i u hu => by
    have hi : i < k := by have := (List.getElem?_eq_some_iff.mp hu).1; rw [hf] at this; exact this
    rw [cell_of_row _ g (0 + j * k + i) cs t (0, 0) h, ← Array.getElem?_toList, hc, Nat.zero_add, Nat.mul_comm j k]
    exact (flat_get f k hf l j x i hj hi).trans hu⟩⟩
def vlF : Fd := ⟨[97], 1, 1, [], false, false, []⟩
def vlS : Sc := ⟨[], [⟨[77], [vlF], []⟩]⟩
def vlT (n : Nat) : Tr := .mk [⟨1, [⟨n, [], []⟩]⟩] []
theorem vl_ok : ScOk vlS := by
  unfold ScOk vlS MsOk FdOk vlF lenM Int64
  simp
theorem vl_five : treeN vlS 1 [77] (vlT 5) = true := by decide +kernel
theorem vl_zero : treeN vlS 1 [77] (vlT 0) = false := by decide +kernel
theorem vdl_at {wr : World} (g b : Nat) (h1 : wr.heap[g]? = some (.cells #[.string ⟨#[97]⟩, .int .i64 1, .int .i64 1, .string ⟨#[]⟩, .bool false, .bool false, .string ⟨#[]⟩] 35 (0, 0)))
    (h2 : wr.heap[b]? = some (.cells #[.string ⟨#[77]⟩, .slice (some ⟨g, 0, none⟩) 1 1, .slice none 0 0] 52 (0, 0))) : ScAt (fun _ _ => True) wr none 0 0 (some ⟨b, 0, none⟩) 1 1 vlS where
  s_e := lst_empty _ _ _ (by decide) (fun _ => rfl)
  s_m := vd_block (l := vlS.msgs) (f := fun _ => [.string ⟨#[77]⟩, .slice (some ⟨g, 0, none⟩) 1 1, .slice none 0 0]) h2 rfl (fun _ => rfl) (fun x hx => by
    obtain rfl : x = ⟨[77], [vlF], []⟩ := by simpa [vlS] using hx
    exact ⟨_, _, _, _, rfl, vd_block (l := [vlF]) (f := fdCells) h1 rfl (fun _ => rfl) (fun _ _ => rfl) trivial (by decide), lst_empty _ _ _ (by decide) (fun _ => rfl)⟩) trivial (by decide)
  s_ne := rfl
  s_nm := rfl
theorem vl_tree {wr : World} (n g b : Nat) (h1 : wr.heap[g]? = some (.cells #[.int .u64 (n : Int), .string ⟨#[]⟩, .slice none 0 0] 39 (0, 0))) (h2 : wr.heap[b]? = some (.cells #[.int .i64 1, .slice (some ⟨g, 0, none⟩) 1 1] 42 (0, 0))) : TrAt (fun _ => True) 0 wr (some ⟨b, 0, none⟩) 1 1 none 0 0 (vlT n) where
  t_s := vd_block (l := (vlT n).slots) (f := fun (_ : Slt) => [Value.int .i64 1, Value.slice (some ⟨g, 0, none⟩) 1 1]) h2 rfl (fun _ => rfl) (fun x hx => by
    obtain rfl : x = ⟨1, [⟨n, [], []⟩]⟩ := by simpa [vlT, Tr.slots] using hx
    exact ⟨_, _, rfl, vd_block (l := ([⟨n, [], []⟩] : List Va)) (f := fun (_ : Va) => [Value.int .u64 (n : Int), Value.string ⟨#[]⟩, Value.slice none 0 0]) h1 rfl (fun _ => rfl) (fun y hy => by
      obtain rfl : y = ⟨n, [], []⟩ := by simpa using hy
      exact ⟨none, 0, rfl, lst_empty _ _ _ (by decide) (fun _ => rfl)⟩) trivial (by show 1 ≤ maxLen; decide)⟩) trivial (by show 1 ≤ maxLen; decide)
  t_r := lst_empty _ _ _ (by decide) (fun _ => rfl)
  t_ns := rfl
  t_nr := rfl
theorem vl_fit (n : Nat) : FitN 1 (vlT n) := by
  refine ⟨by simp [vlT, Tr.slots], by simp [vlT, Tr.rest], fun r hr => by simp [vlT, Tr.rest] at hr, fun s hs => ?_⟩
  obtain rfl : s = ⟨1, [⟨n, [], []⟩]⟩ := by simpa [vlT, Tr.slots] using hs
  refine ⟨by simp, fun v hv => ?_⟩
  obtain rfl : v = ⟨n, [], []⟩ := by simpa using hv
  exact ⟨by simp, by simp, fun u hu => by simp at hu⟩
theorem vl_bit (n : Nat) (h : n < 18446744073709551616) : OkN 1 (vlT n) := by
  refine ⟨by simp [vlT, Tr.slots], by simp [vlT, Tr.rest], fun r hr => by simp [vlT, Tr.rest] at hr, fun s hs => ?_⟩
  obtain rfl : s = ⟨1, [⟨n, [], []⟩]⟩ := by simpa [vlT, Tr.slots] using hs
  refine ⟨by simp, fun v hv => ?_⟩
  obtain rfl : v = ⟨n, [], []⟩ := by simpa using hv
  exact ⟨⟨by simp, h⟩, by simp, fun u hu => by simp at hu⟩

set_option maxHeartbeats 8000000 in
theorem vdlive_any (w : World) (env : VdEnv w) : Calls Tryd.prog 8 #[] w fun e w' => e = .returned (.bool true) ∧ Below w.heap.size w w' := by
  obtain ⟨W, hW⟩ : ∃ W, W = allocs w [.cells #[.string ⟨#[97]⟩, .int .i64 1, .int .i64 1, .string ⟨#[]⟩, .bool false, .bool false, .string ⟨#[]⟩] 35, .cells #[.string ⟨#[77]⟩, .slice (some ⟨w.heap.size, 0, none⟩) 1 1, .slice none 0 0] 52, .cells #[.slice none 0 0, .slice (some ⟨w.heap.size + 1, 0, none⟩) 1 1] 25,
    .cells #[.int .u64 5, .string ⟨#[]⟩, .slice none 0 0] 39, .cells #[.int .i64 1, .slice (some ⟨w.heap.size + 1 + 1 + 1, 0, none⟩) 1 1] 42, .cells #[.slice (some ⟨w.heap.size + 1 + 1 + 1 + 1, 0, none⟩) 1 1, .slice none 0 0] 29,
    .cells #[.int .u64 0, .string ⟨#[]⟩, .slice none 0 0] 39, .cells #[.int .i64 1, .slice (some ⟨w.heap.size + 1 + 1 + 1 + 1 + 1 + 1, 0, none⟩) 1 1] 42, .cells #[.slice (some ⟨w.heap.size + 1 + 1 + 1 + 1 + 1 + 1 + 1, 0, none⟩) 1 1, .slice none 0 0] 29] := ⟨_, rfl⟩
  have hb := allocs_bel [.cells #[.string ⟨#[97]⟩, .int .i64 1, .int .i64 1, .string ⟨#[]⟩, .bool false, .bool false, .string ⟨#[]⟩] 35, .cells #[.string ⟨#[77]⟩, .slice (some ⟨w.heap.size, 0, none⟩) 1 1, .slice none 0 0] 52, .cells #[.slice none 0 0, .slice (some ⟨w.heap.size + 1, 0, none⟩) 1 1] 25,
    .cells #[.int .u64 5, .string ⟨#[]⟩, .slice none 0 0] 39, .cells #[.int .i64 1, .slice (some ⟨w.heap.size + 1 + 1 + 1, 0, none⟩) 1 1] 42, .cells #[.slice (some ⟨w.heap.size + 1 + 1 + 1 + 1, 0, none⟩) 1 1, .slice none 0 0] 29,
    .cells #[.int .u64 0, .string ⟨#[]⟩, .slice none 0 0] 39, .cells #[.int .i64 1, .slice (some ⟨w.heap.size + 1 + 1 + 1 + 1 + 1 + 1, 0, none⟩) 1 1] 42, .cells #[.slice (some ⟨w.heap.size + 1 + 1 + 1 + 1 + 1 + 1 + 1, 0, none⟩) 1 1, .slice none 0 0] 29] w
  have hat := fun i cs t h => allocs_at [.cells #[.string ⟨#[97]⟩, .int .i64 1, .int .i64 1, .string ⟨#[]⟩, .bool false, .bool false, .string ⟨#[]⟩] 35, .cells #[.string ⟨#[77]⟩, .slice (some ⟨w.heap.size, 0, none⟩) 1 1, .slice none 0 0] 52, .cells #[.slice none 0 0, .slice (some ⟨w.heap.size + 1, 0, none⟩) 1 1] 25,
    .cells #[.int .u64 5, .string ⟨#[]⟩, .slice none 0 0] 39, .cells #[.int .i64 1, .slice (some ⟨w.heap.size + 1 + 1 + 1, 0, none⟩) 1 1] 42, .cells #[.slice (some ⟨w.heap.size + 1 + 1 + 1 + 1, 0, none⟩) 1 1, .slice none 0 0] 29,
    .cells #[.int .u64 0, .string ⟨#[]⟩, .slice none 0 0] 39, .cells #[.int .i64 1, .slice (some ⟨w.heap.size + 1 + 1 + 1 + 1 + 1 + 1, 0, none⟩) 1 1] 42, .cells #[.slice (some ⟨w.heap.size + 1 + 1 + 1 + 1 + 1 + 1 + 1, 0, none⟩) 1 1, .slice none 0 0] 29] w i cs t h
  rw [← hW] at hb hat
  have h0 := hat 0 _ _ rfl
  rw [Nat.add_zero] at h0
  have h1 := hat 1 _ _ rfl
  have h2 := hat 2 _ _ rfl
  rw [show w.heap.size + 2 = w.heap.size + 1 + 1 from rfl] at h2
  have h3 := hat 3 _ _ rfl
  rw [show w.heap.size + 3 = w.heap.size + 1 + 1 + 1 from rfl] at h3
  have h4 := hat 4 _ _ rfl
  rw [show w.heap.size + 4 = w.heap.size + 1 + 1 + 1 + 1 from rfl] at h4
  have h5 := hat 5 _ _ rfl
  rw [show w.heap.size + 5 = w.heap.size + 1 + 1 + 1 + 1 + 1 from rfl] at h5
  have h6 := hat 6 _ _ rfl
  rw [show w.heap.size + 6 = w.heap.size + 1 + 1 + 1 + 1 + 1 + 1 from rfl] at h6
  have h7 := hat 7 _ _ rfl
  rw [show w.heap.size + 7 = w.heap.size + 1 + 1 + 1 + 1 + 1 + 1 + 1 from rfl] at h7
  have h8 := hat 8 _ _ rfl
  rw [show w.heap.size + 8 = w.heap.size + 1 + 1 + 1 + 1 + 1 + 1 + 1 + 1 from rfl] at h8
  have hs := vdl_at _ _ h0 h1
  have t5 := vl_tree 5 _ _ h3 h4
  have t0 := vl_tree 0 _ _ h6 h7
  have HC1 := Lib.hid (fun u (hb : Below W.heap.size W u) (env : VdEnv u) => pvtree_any vl_ok 0 _ _ u none 0 0 _ 1 1 [77] _ 1 1 none 0 0 _ env (scAt_bel hs hb) (trAt_bel t5 hb) (vl_fit 5) (vl_bit 5 (by decide)))
  have HC2 := Lib.hid (fun u (hb : Below W.heap.size W u) (env : VdEnv u) => pvtree_any vl_ok 0 _ _ u none 0 0 _ 1 1 [77] _ 1 1 none 0 0 _ env (scAt_bel hs hb) (trAt_bel t0 hb) (vl_fit 0) (vl_bit 0 (by decide)))
  rw [vl_five, show strOf [77] = ⟨#[77]⟩ from rfl] at HC1
  rw [vl_zero, show strOf [77] = ⟨#[77]⟩ from rfl] at HC2
  have r20 := obj_cell h2 0
  have r21 := obj_cell h2 1
  have r50 := obj_cell h5 0
  have r51 := obj_cell h5 1
  have r80 := obj_cell h8 0
  have r81 := obj_cell h8 1
  have HEN := Lib.hid (fun u (hb' : Below W.heap.size W u) => (env.rolls hb).rolls hb')
  have HBW := Lib.hid hb
  have HK : Hid (∀ u, Below W.heap.size W u → (u.cell? ⟨w.heap.size + 1 + 1, 0, none⟩ = some (.slice none 0 0) ∧ u.cell? ⟨w.heap.size + 1 + 1, 1, none⟩ = some (.slice (some ⟨w.heap.size + 1, 0, none⟩) 1 1)) ∧ (u.cell? ⟨w.heap.size + 1 + 1 + 1 + 1 + 1, 0, none⟩ = some (.slice (some ⟨w.heap.size + 1 + 1 + 1 + 1, 0, none⟩) 1 1) ∧ u.cell? ⟨w.heap.size + 1 + 1 + 1 + 1 + 1, 1, none⟩ = some (.slice none 0 0)) ∧ (u.cell? ⟨w.heap.size + 1 + 1 + 1 + 1 + 1 + 1 + 1 + 1, 0, none⟩ = some (.slice (some ⟨w.heap.size + 1 + 1 + 1 + 1 + 1 + 1 + 1, 0, none⟩) 1 1) ∧ u.cell? ⟨w.heap.size + 1 + 1 + 1 + 1 + 1 + 1 + 1 + 1, 1, none⟩ = some (.slice none 0 0))) :=
    Lib.hid (fun u hu => ⟨⟨cell_under hu r20, cell_under hu r21⟩, ⟨cell_under hu r50, cell_under hu r51⟩, cell_under hu r80, cell_under hu r81⟩)
  obtain ⟨⟨a0, a1⟩, ⟨b0, b1⟩, c0, c1⟩ := HK.out _ (Below.refl _ _)
  simp only [allocs] at hW
  have HW := Lib.hid hW
  rw [hW] at a0 a1 b0 b1 c0 c1
  clear hat h0 h1 h2 h3 h4 h5 h6 h7 h8 hs t5 t0 env r20 r21 r50 r51 r80 r81 hb hW
  go_enter Tryd.func8, Tryd.ntmps8
  go_wp2_with (first
    | (go_at_call 9; (with_reducible rw [← HW.out]); refine (HC1.out _ (Below.refl _ _) (HEN.out _ (Below.refl _ _))).mono ?_; rintro e w1 ⟨rfl, hb⟩; obtain ⟨⟨a0, a1⟩, ⟨b0, b1⟩, c0, c1⟩ := HK.out _ hb; have HB1 := Lib.hid hb; clear hb HC1)
    | (go_at_call 9; refine (HC2.out _ HB1.out (HEN.out _ HB1.out)).mono ?_; rintro e w2 ⟨rfl, hb⟩; have HB2 := Lib.hid (vbel HB1.out hb); clear hb))
  go_ret
  exact ⟨rfl, vbel HBW.out HB2.out⟩
end Go.Proofs.YtmdekdmcnnbofaaDoor

/- Layer 20: which trees are a message's values, the law's walk. Conditions: VdEnv; those that each theorem names. -/
namespace Go.Proofs.YtmdekdmcnnbofaaDoor
open Go.RowKit
set_option linter.unusedVariables false
set_option maxRecDepth 100000

set_option maxHeartbeats 16000000 in
theorem validtrees_walk (w : World) (env : VdEnv w) {SS : Nat → Nat → Prop} {A A2 : Option Addr} {ne ca nm ca2 : Nat} {s : Sc} (h : ScAt SS w A ne ca A2 nm ca2 s) (hok : ScOk s) (t : List UInt8) (ht : t.length ≤ 140737488351232) {S : Nat → Prop} {n : Nat} {B : Option Addr} {na cb : Nat} {B2 : Option Addr} {nr cr : Nat} {x : Tr} (hx : TrAt S n w B na cb B2 nr cr x) (ho : OkT x) :
    Calls Tryd.prog 3 #[.agg #[.slice A ne ca, .slice A2 nm ca2], .string (strOf t), .agg #[.slice B na cb, .slice B2 nr cr]] w fun e w' => e = .returned (.bool true) ∧ Below w.heap.size w w' := by
  have HLV := Lib.hid (fun u (hb : Below w.heap.size w u) => vdlive_any u (env.rolls hb))
  have HSM := Lib.hid (fun u (hb : Below w.heap.size w u) => rvsmall_any u (scAt_bel h hb) hok)
  have HST := Lib.hid (fun u (hb : Below w.heap.size w u) => rsmalltr_any u (trAt_bel hx hb) ho)
  have HBX := Lib.hid (bx2_start w #[.slice A ne ca, .slice A2 nm ca2] #[.slice B na cb, .slice B2 nr cr] 25 29)
  have HK : Hid (∀ u, Bx2 w u (.cells #[.slice A ne ca, .slice A2 nm ca2] 25 (0, 0)) (.cells #[.slice B na cb, .slice B2 nr cr] 29 (0, 0)) → u.cell? ⟨w.heap.size, 0, none⟩ = some (.slice A ne ca) ∧ u.cell? ⟨w.heap.size, 1, none⟩ = some (.slice A2 nm ca2) ∧ u.cell? ⟨w.heap.size + 1, 0, none⟩ = some (.slice B na cb) ∧ u.cell? ⟨w.heap.size + 1, 1, none⟩ = some (.slice B2 nr cr)) := Lib.hid (fun u hu => ⟨obj_cell hu.b2_one 0, obj_cell hu.b2_one 1, obj_cell hu.b2_two 0, obj_cell hu.b2_two 1⟩)
  obtain ⟨r0, r1, s0, s1⟩ := HK.out _ HBX.out
  cases hs : smallT s with
  | false =>
    rw [hs] at HSM
    clear env h hok hx ho hs HST HK
    generalize strOf t = st at *
    go_enter Tryd.func3, Tryd.ntmps3
    go_wp2_with (first
      | (go_at_call 6; refine (HSM.out _ HBX.out.b2_bel).mono ?_; rintro e w1 ⟨rfl, hb⟩; replace HBX := Lib.hid (bx2_step HBX.out hb); clear hb)
      | (go_at_call 8; refine (HLV.out _ HBX.out.b2_bel).mono ?_; rintro e w4 ⟨rfl, hb⟩; replace HBX := Lib.hid (bx2_step HBX.out hb); clear hb))
    go_ret
    exact ⟨rfl, HBX.out.b2_bel⟩
  | true =>
    rw [hs] at HSM
    cases hy : smallTr n x with
    | false =>
      rw [hy] at HST
      clear env h hok hx ho hs hy
      generalize strOf t = st at *
      go_enter Tryd.func3, Tryd.ntmps3
      go_wp2_with (first
        | (go_at_call 6; refine (HSM.out _ HBX.out.b2_bel).mono ?_; rintro e w1 ⟨rfl, hb⟩; replace HBX := Lib.hid (bx2_step HBX.out hb); obtain ⟨r0, r1, s0, s1⟩ := HK.out _ HBX.out; clear hb)
        | (go_at_call 7; refine (HST.out _ HBX.out.b2_bel).mono ?_; rintro e w2 ⟨rfl, hb⟩; replace HBX := Lib.hid (bx2_step HBX.out hb); clear hb)
        | (go_at_call 8; refine (HLV.out _ HBX.out.b2_bel).mono ?_; rintro e w4 ⟨rfl, hb⟩; replace HBX := Lib.hid (bx2_step HBX.out hb); clear hb))
      go_ret
      exact ⟨rfl, HBX.out.b2_bel⟩
    | true =>
      rw [hy] at HST
      obtain ⟨hf, _, _⟩ := small_fits hy
      have HP := Lib.hid (fun u (hb : Below w.heap.size w u) => pvtree_any hok n SS S u _ _ _ _ _ _ t _ _ _ _ _ _ x (env.rolls hb) (scAt_bel h hb) (trAt_bel hx hb) hf (ho (n + 1)))
      have HR := Lib.hid (fun u (hb : Below w.heap.size w u) => rvtree_any s n SS S u _ _ _ _ _ _ t _ _ _ _ _ _ x (env.rolls hb).2 (scAt_bel h hb) (trAt_bel hx hb) hf (ho (n + 1)))
      generalize treeN s (n + 1) t x = b at *
      clear env h hok hx ho hs hy hf
      generalize strOf t = st at *
      go_enter Tryd.func3, Tryd.ntmps3
      go_wp2_with (first
        | (go_at_call 6; refine (HSM.out _ HBX.out.b2_bel).mono ?_; rintro e w1 ⟨rfl, hb⟩; replace HBX := Lib.hid (bx2_step HBX.out hb); obtain ⟨r0, r1, s0, s1⟩ := HK.out _ HBX.out; clear hb)
        | (go_at_call 7; refine (HST.out _ HBX.out.b2_bel).mono ?_; rintro e w2 ⟨rfl, hb⟩; replace HBX := Lib.hid (bx2_step HBX.out hb); obtain ⟨r0, r1, s0, s1⟩ := HK.out _ HBX.out; clear hb))
      have HBY := HBX
      replace HBX := Lib.hid (bx2_step HBX.out (drewN_under _ 1))
      go_region_held3 (fun u => u.cell? ⟨w.heap.size, 0, none⟩ = some (.slice A ne ca) ∧ u.cell? ⟨w.heap.size, 1, none⟩ = some (.slice A2 nm ca2) ∧ u.cell? ⟨w.heap.size + 1, 0, none⟩ = some (.slice B na cb) ∧ u.cell? ⟨w.heap.size + 1, 1, none⟩ = some (.slice B2 nr cr))
        (first | exact HK.out _ HBX.out | exact HK.out _ HBY.out)
        (first
          | (go_at_call 9; refine (HP.out _ HBX.out.b2_bel).mono ?_; rintro e u1 ⟨rfl, hb⟩; replace HBX := Lib.hid (bx2_step HBX.out hb); clear hb)
          | (go_at_call 10; refine (HR.out _ HBX.out.b2_bel).mono ?_; rintro e u2 ⟨rfl, hb⟩; replace HBX := Lib.hid (bx2_step HBX.out hb); clear hb)
          | (go_at_call 8; refine (HLV.out _ HBX.out.b2_bel).mono ?_; rintro e u3 ⟨rfl, hb⟩; replace HBX := Lib.hid (bx2_step HBX.out hb); clear hb))
      go_wp2
      go_ret
      exact ⟨rfl, HBX.out.b2_bel⟩
end Go.Proofs.YtmdekdmcnnbofaaDoor

/- Layer 20: which values are a field's, which numbers a message knows, the law's walk. Conditions: VdEnv; those that each theorem names. -/
namespace Go.Proofs.YtmdekdmcnnbofaaDoor
open Go.RowKit
set_option linter.unusedVariables false
set_option maxRecDepth 100000

theorem vd_ok_one {v : Va} (h : (v.vs.length ≤ mxL ∧ v.vn < 18446744073709551616) ∧ v.vm.length ≤ mxL ∧ ∀ u ∈ v.vm, OkT u) : OkT (.mk [⟨0, [v]⟩] []) := fun m => by
  match m with
  | 0 => trivial
  | m + 1 =>
    refine ⟨by simp [Tr.slots], by simp [Tr.rest], fun r hr => by simp [Tr.rest] at hr, fun s hs => ?_⟩
    have : s = ⟨0, [v]⟩ := by simpa [Tr.slots] using hs
    subst this
    refine ⟨by simp, fun y hy => ?_⟩
    obtain rfl : y = v := by simpa using hy
    exact ⟨h.1, h.2.1, fun u hu => h.2.2 u hu m⟩
theorem vd_one {S : Nat → Prop} {n : Nat} {wr : World} {v : Va} {A : Option Addr} {ca : Nat} (g b : Nat) (hk : KsAt S n wr A ca v.vm) (h1 : wr.heap[g]? = some (.cells #[.int .u64 (v.vn : Int), .string (strOf v.vs), .slice A v.vm.length ca] 39 (0, 0))) (h2 : wr.heap[b]? = some (.cells #[.int .i64 0, .slice (some ⟨g, 0, none⟩) 1 1] 42 (0, 0))) : TrAt (fun _ => True) n wr (some ⟨b, 0, none⟩) 1 1 none 0 0 (.mk [⟨0, [v]⟩] []) where
  t_s := vd_block (l := (Tr.mk [⟨0, [v]⟩] []).slots) (f := fun (_ : Slt) => [Value.int .i64 0, Value.slice (some ⟨g, 0, none⟩) 1 1]) h2 rfl (fun _ => rfl) (fun x hx => by
    obtain rfl : x = ⟨0, [v]⟩ := by simpa [Tr.slots] using hx
    exact ⟨_, _, rfl, vd_block (l := ([v] : List Va)) (f := fun (_ : Va) => [Value.int .u64 (v.vn : Int), Value.string (strOf v.vs), Value.slice A v.vm.length ca]) h1 rfl (fun _ => rfl) (fun y hy => by
      obtain rfl : y = v := by simpa using hy
      exact ⟨A, ca, rfl, ksAt_keep hk (fun _ _ => trivial) (stay_refl _ _)⟩) trivial (by show 1 ≤ maxLen; decide)⟩) trivial (by show 1 ≤ maxLen; decide)
  t_r := lst_empty _ _ _ (by decide) (fun _ => rfl)
  t_ns := rfl
  t_nr := rfl

set_option maxHeartbeats 16000000 in
theorem validvals_walk (w : World) (env : VdEnv w) {SS : Nat → Nat → Prop} {A A2 : Option Addr} {ne ca nm ca2 : Nat} {s : Sc} (h : ScAt SS w A ne ca A2 nm ca2 s) (hok : ScOk s) (f : Fd) (hfo : Int64 f.num ∧ Int64 f.ty ∧ f.name.length ≤ 140737488351232 ∧ f.ref.length ≤ 140737488351232 ∧ f.one.length ≤ 140737488351232) (v : Va) {S : Nat → Prop} {n : Nat} {A1 : Option Addr} {c1 : Nat} (hk : KsAt S n w A1 c1 v.vm) (hv1 : v.vs.length ≤ mxL ∧ v.vn < 18446744073709551616) (hv2 : v.vm.length ≤ mxL) (hv3 : ∀ u ∈ v.vm, OkT u) :
    Calls Tryd.prog 4 #[.agg #[.slice A ne ca, .slice A2 nm ca2], fdV f, .agg #[.int .u64 (v.vn : Int), .string (strOf v.vs), .slice A1 v.vm.length c1]] w fun e w' => e = .returned (.bool true) ∧ Below w.heap.size w w' := by
  have HLV := Lib.hid (fun u (hb : Below w.heap.size w u) => vdlive_any u (env.rolls hb))
  have HSM := Lib.hid (fun u (hb : Below w.heap.size w u) => rvsmall_any u (scAt_bel h hb) hok)
  have HST : Hid (∀ u, Below w.heap.size w u → ∀ W, W = (u.alloc (.cells #[.int .u64 (v.vn : Int), .string (strOf v.vs), .slice A1 v.vm.length c1] 39)).alloc (.cells #[.int .i64 0, .slice (some ⟨u.heap.size, 0, none⟩) 1 1] 42) →
      Calls Tryd.prog 7 #[.agg #[.slice (some ⟨u.heap.size + 1, 0, none⟩) 1 1, .slice none 0 0]] W fun e w' => e = .returned (.bool (smallTr n (.mk [⟨0, [v]⟩] []))) ∧ Below W.heap.size W w') := Lib.hid (fun u hb W hW => by
    obtain ⟨k1, k2, hb2⟩ := box_two u (.cells #[.int .u64 (v.vn : Int), .string (strOf v.vs), .slice A1 v.vm.length c1] 39) (.cells #[.int .i64 0, .slice (some ⟨u.heap.size, 0, none⟩) 1 1] 42)
    rw [heap_alloc_new] at k1 k2
    rw [← hW] at k1 k2 hb2
    exact rsmalltr_any W (vd_one u.heap.size (u.heap.size + 1) (ksAt_bel hk (vbel hb hb2)) k1 k2) (vd_ok_one ⟨hv1, hv2, hv3⟩))
  have HBX := Lib.hid (bx3_start w #[.slice A ne ca, .slice A2 nm ca2] #[.string (strOf f.name), .int .i64 f.num, .int .i64 f.ty, .string (strOf f.ref), .bool f.rep, .bool f.loose, .string (strOf f.one)] #[.int .u64 (v.vn : Int), .string (strOf v.vs), .slice A1 v.vm.length c1] 25 35 39)
  have HVP : smallTr n (.mk [⟨0, [v]⟩] []) = true → Hid (∀ u, Below w.heap.size w u → Calls Tryd.prog 11 #[.agg #[.slice A ne ca, .slice A2 nm ca2], fdV f, .agg #[.int .u64 (v.vn : Int), .string (strOf v.vs), .slice A1 v.vm.length c1]] u fun e w' => e = .returned (.bool (valT (treeN s n) f v)) ∧ Below u.heap.size u w') ∧ Hid (∀ u, Below w.heap.size w u → Calls Tryd.prog 12 #[.agg #[.slice A ne ca, .slice A2 nm ca2], fdV f, .agg #[.int .u64 (v.vn : Int), .string (strOf v.vs), .slice A1 v.vm.length c1]] u fun e w' => e = .returned (.bool (valT (treeN s n) f v)) ∧ Below u.heap.size u w') := fun hs => by
    obtain ⟨hf, _, _⟩ := small_fits hs
    have hfs := (fit_slots hf (x := ⟨0, [v]⟩) (by simp [Tr.slots])).2 v (by simp)
    exact ⟨Lib.hid (fun u hb => pvval_any (fun k _ => pvtree_any hok k) u (env.rolls hb) (scAt_bel h hb) f v (ksAt_bel hk hb) hfs ⟨hv1.2, fun u hu => hv3 u hu n⟩), Lib.hid (fun u hb => rvval_any (fun k _ => rvtree_any s k) u (env.rolls hb).2 (scAt_bel h hb) f v (ksAt_bel hk hb) hfs ⟨hv1.2, fun u hu => hv3 u hu n⟩)⟩
  have HKP := Lib.hid (fun u (hb : Below w.heap.size w u) => pvknows_any u (scAt_bel h hb) f.ref f.num)
  have HKR := Lib.hid (fun u (hb : Below w.heap.size w u) => rvknows_any u (scAt_bel h hb) f.ref f.num)
  have HK : Hid (∀ u, Bx3 w u (.cells #[.slice A ne ca, .slice A2 nm ca2] 25 (0, 0)) (.cells #[.string (strOf f.name), .int .i64 f.num, .int .i64 f.ty, .string (strOf f.ref), .bool f.rep, .bool f.loose, .string (strOf f.one)] 35 (0, 0)) (.cells #[.int .u64 (v.vn : Int), .string (strOf v.vs), .slice A1 v.vm.length c1] 39 (0, 0)) → (u.cell? ⟨w.heap.size, 0, none⟩ = some (.slice A ne ca) ∧ u.cell? ⟨w.heap.size, 1, none⟩ = some (.slice A2 nm ca2)) ∧ (u.cell? ⟨w.heap.size + 1, 0, none⟩ = some (.string (strOf f.name)) ∧ u.cell? ⟨w.heap.size + 1, 1, none⟩ = some (.int .i64 f.num) ∧ u.cell? ⟨w.heap.size + 1, 2, none⟩ = some (.int .i64 f.ty) ∧ u.cell? ⟨w.heap.size + 1, 3, none⟩ = some (.string (strOf f.ref)) ∧ u.cell? ⟨w.heap.size + 1, 4, none⟩ = some (.bool f.rep) ∧ u.cell? ⟨w.heap.size + 1, 5, none⟩ = some (.bool f.loose) ∧ u.cell? ⟨w.heap.size + 1, 6, none⟩ = some (.string (strOf f.one))) ∧ (u.cell? ⟨w.heap.size + 1 + 1, 0, none⟩ = some (.int .u64 (v.vn : Int)) ∧ u.cell? ⟨w.heap.size + 1 + 1, 1, none⟩ = some (.string (strOf v.vs)) ∧ u.cell? ⟨w.heap.size + 1 + 1, 2, none⟩ = some (.slice A1 v.vm.length c1))) := Lib.hid (fun u hu => ⟨⟨obj_cell hu.b3_one 0, obj_cell hu.b3_one 1⟩, ⟨obj_cell hu.b3_two 0, obj_cell hu.b3_two 1, obj_cell hu.b3_two 2, obj_cell hu.b3_two 3, obj_cell hu.b3_two 4, obj_cell hu.b3_two 5, obj_cell hu.b3_two 6⟩, obj_cell hu.b3_thr 0, obj_cell hu.b3_thr 1, obj_cell hu.b3_thr 2⟩)
  unfold fdV at HVP
  unfold fdV
  generalize smallTr n (.mk [⟨0, [v]⟩] []) = st at *
  generalize valT (treeN s n) f v = b1 at *
  generalize knowsT s f.ref f.num = b2 at *
  clear env hfo hv1 hv2 hv3 hk
  generalize (v.vn : Int) = zv at *
  generalize strOf v.vs = sv at *
  generalize v.vm.length = lv at *
  generalize strOf f.name = s0 at *
  generalize strOf f.ref = s3 at *
  generalize strOf f.one = s6 at *
  generalize f.num = z1 at *
  generalize f.ty = z2 at *
  generalize f.rep = b4 at *
  generalize f.loose = b5 at *
  obtain ⟨⟨r0, r1⟩, ⟨p0, p1, p2, p3, p4, p5, p6⟩, v0, v1, v2⟩ := HK.out _ HBX.out
  cases hs : smallT s with
  | false =>
    rw [hs] at HSM
    clear h hok hs HST HK HVP HKP HKR
    go_enter Tryd.func4, Tryd.ntmps4
    go_wp2_with (first
      | (go_at_call 6; refine (HSM.out _ HBX.out.b3_bel).mono ?_; rintro e w1 ⟨rfl, hb⟩; replace HBX := Lib.hid (bx3_step HBX.out hb); clear hb)
      | (go_at_call 8; refine (HLV.out _ HBX.out.b3_bel).mono ?_; rintro e w4 ⟨rfl, hb⟩; replace HBX := Lib.hid (bx3_step HBX.out hb); clear hb))
    go_ret
    exact ⟨rfl, HBX.out.b3_bel⟩
  | true =>
    rw [hs] at HSM
    cases st with
    | false =>
      clear h hok hs HVP HKP HKR
      go_enter Tryd.func4, Tryd.ntmps4
      go_wp2_with (first
        | (go_at_call 6; refine (HSM.out _ HBX.out.b3_bel).mono ?_; rintro e w1 ⟨rfl, hb⟩; replace HBX := Lib.hid (bx3_step HBX.out hb); obtain ⟨_, _, v0, v1, v2⟩ := HK.out _ HBX.out; clear hb)
        | (go_at_call 7; refine (HST.out _ HBX.out.b3_bel _ rfl).mono ?_; rintro e w2 ⟨rfl, hb⟩; replace HBX := Lib.hid (bx3_step (bx3_step HBX.out (two_boxes w1 _ _).1) hb); clear hb)
        | (go_at_call 8; refine (HLV.out _ HBX.out.b3_bel).mono ?_; rintro e w4 ⟨rfl, hb⟩; replace HBX := Lib.hid (bx3_step HBX.out hb); clear hb))
      go_ret
      exact ⟨rfl, HBX.out.b3_bel⟩
    | true =>
      obtain ⟨HVA, HVR⟩ := HVP rfl
      clear h hok hs HVP
      go_enter Tryd.func4, Tryd.ntmps4
      go_wp2_with (first
        | (go_at_call 6; refine (HSM.out _ HBX.out.b3_bel).mono ?_; rintro e w1 ⟨rfl, hb⟩; replace HBX := Lib.hid (bx3_step HBX.out hb); obtain ⟨_, _, v0, v1, v2⟩ := HK.out _ HBX.out; clear hb)
        | (go_at_call 7; refine (HST.out _ HBX.out.b3_bel _ rfl).mono ?_; rintro e w2 ⟨rfl, hb⟩; replace HBX := Lib.hid (bx3_step (bx3_step HBX.out (two_boxes w1 _ _).1) hb); obtain ⟨⟨r0, r1⟩, ⟨p0, p1, p2, p3, p4, p5, p6⟩, v0, v1, v2⟩ := HK.out _ HBX.out; clear hb))
      have HBY := HBX
      replace HBX := Lib.hid (bx3_step HBX.out (drewN_under _ 1))
      go_region_held3 (fun u => (u.cell? ⟨w.heap.size, 0, none⟩ = some (.slice A ne ca) ∧ u.cell? ⟨w.heap.size, 1, none⟩ = some (.slice A2 nm ca2)) ∧ (u.cell? ⟨w.heap.size + 1, 0, none⟩ = some (.string s0) ∧ u.cell? ⟨w.heap.size + 1, 1, none⟩ = some (.int .i64 z1) ∧ u.cell? ⟨w.heap.size + 1, 2, none⟩ = some (.int .i64 z2) ∧ u.cell? ⟨w.heap.size + 1, 3, none⟩ = some (.string s3) ∧ u.cell? ⟨w.heap.size + 1, 4, none⟩ = some (.bool b4) ∧ u.cell? ⟨w.heap.size + 1, 5, none⟩ = some (.bool b5) ∧ u.cell? ⟨w.heap.size + 1, 6, none⟩ = some (.string s6)) ∧ (u.cell? ⟨w.heap.size + 1 + 1, 0, none⟩ = some (.int .u64 zv) ∧ u.cell? ⟨w.heap.size + 1 + 1, 1, none⟩ = some (.string sv) ∧ u.cell? ⟨w.heap.size + 1 + 1, 2, none⟩ = some (.slice A1 lv c1)))
        (first | exact HK.out _ HBX.out | exact HK.out _ HBY.out)
        (first
          | (go_at_call 11; refine (HVA.out _ HBX.out.b3_bel).mono ?_; rintro e u1 ⟨rfl, hb⟩; replace HBX := Lib.hid (bx3_step HBX.out hb); clear hb)
          | (go_at_call 12; refine (HVR.out _ HBX.out.b3_bel).mono ?_; rintro e u2 ⟨rfl, hb⟩; replace HBX := Lib.hid (bx3_step HBX.out hb); clear hb)
          | (go_at_call 13; refine (HKP.out _ HBX.out.b3_bel).mono ?_; rintro e u3 ⟨rfl, hb⟩; replace HBX := Lib.hid (bx3_step HBX.out hb); clear hb)
          | (go_at_call 14; refine (HKR.out _ HBX.out.b3_bel).mono ?_; rintro e u4 ⟨rfl, hb⟩; replace HBX := Lib.hid (bx3_step HBX.out hb); clear hb)
          | (go_at_call 8; refine (HLV.out _ HBX.out.b3_bel).mono ?_; rintro e u5 ⟨rfl, hb⟩; replace HBX := Lib.hid (bx3_step HBX.out hb); clear hb))
      go_wp2
      go_ret
      exact ⟨rfl, HBX.out.b3_bel⟩
end Go.Proofs.YtmdekdmcnnbofaaDoor

/- Layer 20: the empty tree is each message's; without a slot, or a field of its Rest, a tree is still one: the law's walk. Conditions: VdEnv; those that each theorem names. -/
namespace Go.Proofs.YtmdekdmcnnbofaaDoor
open Go.RowKit
set_option linter.unusedVariables false
set_option maxRecDepth 100000

theorem vx_nil (S : Nat → Prop) (w : World) : TrAt S 0 w none 0 0 none 0 0 (.mk [] []) := ⟨lst_empty _ _ _ (by decide) (fun _ => rfl), lst_empty _ _ _ (by decide) (fun _ => rfl), rfl, rfl⟩
theorem vx_fit : FitN 1 (.mk [] []) := ⟨by simp [Tr.slots], by simp [Tr.rest], fun r hr => by simp [Tr.rest] at hr, fun s hs => by simp [Tr.slots] at hs⟩
theorem vx_bit : OkN 1 (.mk [] []) := ⟨by simp [Tr.slots], by simp [Tr.rest], fun r hr => by simp [Tr.rest] at hr, fun s hs => by simp [Tr.slots] at hs⟩
theorem sl_one {R : World → List Value → Tr → Prop} {S : Nat → Prop} {w : World} (cs : List Value) (x : Slt) (h : slR R S w cs x) : ∀ y ∈ cs, y.oneCell' = true := by
  obtain ⟨A, c, rfl, _⟩ := h
  intro y hy
  simp at hy
  rcases hy with rfl | rfl <;> rfl
theorem rw_one {w : World} (cs : List Value) (x : Rw) (h : rwR w cs x) : ∀ y ∈ cs, y.oneCell' = true := by
  unfold rwR rawCells at h
  subst h
  intro y hy
  simp at hy
  rcases hy with rfl | rfl | rfl | rfl <;> rfl
theorem neq_bool (b : Bool) (w : World) : (binOp .neq 4 (.bool b) (.bool b)).run Tryd.prog w = .ok (.bool false) w := by cases b <;> kernel_rfl
/-- Behind the second append and the store: the tree's new list stands in its box. -/
theorem vx_slots {S : Nat → Prop} {n i : Nat} {w u : World} {A : Option Addr} {na ca : Nat} {A2 : Option Addr} {nr cr base : Nat} {v : Value} {x : Tr} (hx : TrAt S n w A na ca A2 nr cr x) (hS : ∀ g, S g → g < w.heap.size) (hb : Below w.heap.size w u)
    (h : OwnL base 42 2 (slR (trR S n) S w) u v (x.slots.take i ++ x.slots.drop (i + 1))) : ∃ A' c', v = .slice A' (x.slots.take i ++ x.slots.drop (i + 1)).length c' ∧ TrAt (fun g => S g ∨ v.ownBlock = some g) n u A' (x.slots.take i ++ x.slots.drop (i + 1)).length c' A2 nr cr (.mk (x.slots.take i ++ x.slots.drop (i + 1)) x.rest) := by
  have h2 := ownL_keep (w' := u) (R' := slR (trR (fun g => S g ∨ v.ownBlock = some g) n) (fun g => S g ∨ v.ownBlock = some g) u) h (fun c y hy => slR_keep (trR_keep (fun _ h => .inl h) (stay_bel hb) n) (fun _ h => .inl h) (stay_bel hb) c y hy) (fun g _ => rfl)
  obtain ⟨A', c', e, hl⟩ := ownL_lst (RR := slR (trR (fun g => S g ∨ v.ownBlock = some g) n) (fun g => S g ∨ v.ownBlock = some g)) h2
  exact ⟨A', c', e, hl _ (fun g hg => .inr hg), lst_keep hx.t_r (fun _ _ h => h) (fun _ h => .inl h) (stay_bel hb), rfl, hx.t_nr⟩
theorem vx_rest {S : Nat → Prop} {n i : Nat} {w u : World} {A : Option Addr} {na ca : Nat} {A2 : Option Addr} {nr cr base : Nat} {v : Value} {x : Tr} (hx : TrAt S n w A na ca A2 nr cr x) (hS : ∀ g, S g → g < w.heap.size) (hb : Below w.heap.size w u)
    (h : OwnL base 64 4 (rwR w) u v (x.rest.take i ++ x.rest.drop (i + 1))) : ∃ A' c', v = .slice A' (x.rest.take i ++ x.rest.drop (i + 1)).length c' ∧ TrAt (fun g => S g ∨ v.ownBlock = some g) n u A na ca A' (x.rest.take i ++ x.rest.drop (i + 1)).length c' (.mk x.slots (x.rest.take i ++ x.rest.drop (i + 1))) := by
  obtain ⟨A', c', e, hl⟩ := ownL_lst (RR := rwR) (show OwnL base 64 4 (rwR u) u v _ from h)
  exact ⟨A', c', e, lst_keep hx.t_s (slR_keep (trR_keep (fun _ h => .inl h) (stay_bel hb) n) (fun _ h => .inl h) (stay_bel hb)) (fun _ h => .inl h) (stay_bel hb), hl _ (fun g hg => .inr hg), hx.t_ns, rfl⟩

/-- The law's two boxes, and that of the tree that it changes. -/
structure VxS (w wr : World) (O1 O2 : Obj) (X : Array Value) (u : World) : Prop where
  x_b : Bx2 w u O1 O2
  x_x : u.heap[wr.heap.size]? = some (.cells X 29 (0, 0))
section
variable {w wr u u' : World} {O1 O2 : Obj} {X : Array Value}
theorem vxs_made (h : Bx2 w wr O1 O2) (X : Array Value) (t : TypeId) : VxS w wr O1 O2 X ((wr.alloc (.cells X 29)).alloc (.cells #[] t)).drew ∧ ((wr.alloc (.cells X 29)).alloc (.cells #[] t)).drew.heap[wr.heap.size + 1]? = some (.cells #[] t (0, 0)) := by
  have h2 := bx2_start wr X #[] 29 t
  have hd := bx2_step h2 (drewN_under _ 1)
  exact ⟨⟨bx2_step h hd.b2_bel, hd.b2_one⟩, hd.b2_two⟩
theorem vxs_lt (h : Bx2 w wr O1 O2) : w.heap.size + 1 < wr.heap.size := lt_of_block h.b2_two
theorem VxS.grow {α : Type} {t : TypeId} {k : Nat} {R : List Value → α → Prop} {v : Value} {l : List α} (h : VxS w wr O1 O2 X u) (hw : w.heap.size + 1 < wr.heap.size) (ho : OwnL (wr.heap.size + 1) t k R u v l) (hg : u.grownBy u' v.ownBlock) : VxS w wr O1 O2 X u' := by
  have hne : ∀ p, p < wr.heap.size + 1 → some p ≠ v.ownBlock := fun p hp e => by have := (ownL_blk ho p e.symm).1; omega
  exact ⟨⟨h.x_b.b2_bel.grown hg h.x_b.b2_bel.size (fun q hq => by have := (ownL_blk ho q hq).1; omega), (hg.block _ (lt_of_block h.x_b.b2_one) (hne _ (by omega))).trans h.x_b.b2_one, (hg.block _ (lt_of_block h.x_b.b2_two) (hne _ (by omega))).trans h.x_b.b2_two⟩, (hg.block _ (lt_of_block h.x_x) (hne _ (by omega))).trans h.x_x⟩
theorem VxS.store (h : VxS w wr O1 O2 X u) (hw : w.heap.size + 1 < wr.heap.size) (j : Nat) (v : Value) : VxS w wr O1 O2 (X.setIfInBounds j v) (u.setCell ⟨wr.heap.size, j, none⟩ v) :=
  ⟨⟨h.x_b.b2_bel.setCell (by show w.heap.size ≤ wr.heap.size; omega) _, (Below.heap_setCell _ _ _ _ (by show w.heap.size ≠ wr.heap.size; omega)).trans h.x_b.b2_one, (Below.heap_setCell _ _ _ _ (by show w.heap.size + 1 ≠ wr.heap.size; omega)).trans h.x_b.b2_two⟩, obj_set h.x_x j v⟩
theorem ownL_store {α : Type} {t : TypeId} {k : Nat} {R : List Value → α → Prop} {v : Value} {l : List α} (ho : OwnL (wr.heap.size + 1) t k R u v l) (j : Nat) (y : Value) : OwnL (wr.heap.size + 1) t k R (u.setCell ⟨wr.heap.size, j, none⟩ y) v l :=
  ownL_keep ho (fun _ _ h => h) (fun g hg => Below.heap_setCell _ _ _ _ (by have := (ownL_blk ho g hg).1; show g ≠ wr.heap.size; omega))
end

set_option maxHeartbeats 40000000 in
theorem validless_walk (w : World) (env : VdEnv w) {SS : Nat → Nat → Prop} {A A2 : Option Addr} {ne ca nm ca2 : Nat} {s : Sc} (h : ScAt SS w A ne ca A2 nm ca2 s) (hok : ScOk s) (t : List UInt8) (ht : t.length ≤ 140737488351232) {S0 : Nat → Prop} {n : Nat} {B : Option Addr} {na cb : Nat} {B2 : Option Addr} {nr cr : Nat} {x : Tr} (hx : TrAt S0 n w B na cb B2 nr cr x) (ho : OkT x) :
    Calls Tryd.prog 5 #[.agg #[.slice A ne ca, .slice A2 nm ca2], .string (strOf t), .agg #[.slice B na cb, .slice B2 nr cr]] w fun e w' => e = .returned (.bool true) ∧ Below w.heap.size w w' := by
  have hx := trAt_lt hx
  obtain ⟨S, hSd⟩ : ∃ S : Nat → Prop, S = fun g => S0 g ∧ g < w.heap.size := ⟨_, rfl⟩
  rw [← hSd] at hx
  have hS : ∀ g, S g → g < w.heap.size := fun g hg => by rw [hSd] at hg; exact hg.2
  clear hSd
  have HLV := Lib.hid (fun u (hb : Below w.heap.size w u) => vdlive_any u (env.rolls hb))
  have HSM := Lib.hid (fun u (hb : Below w.heap.size w u) => rvsmall_any u (scAt_bel h hb) hok)
  have HST := Lib.hid (fun u (hb : Below w.heap.size w u) => rsmalltr_any u (trAt_bel hx hb) ho)
  have HME := Lib.hid (fun u (hb : Below w.heap.size w u) => rvmessage_any u (scAt_bel h hb) t)
  have HEM := Lib.hid (fun u (hb : Below w.heap.size w u) => pvtree_any hok 0 SS (fun _ => True) u _ _ _ _ _ _ t _ _ _ _ _ _ _ (env.rolls hb) (scAt_bel h hb) (vx_nil _ u) vx_fit vx_bit)
  have HPT := Lib.hid (fun u (hb : Below w.heap.size w u) (S' : Nat → Prop) (C : Option Addr) (nc cc : Nat) (D : Option Addr) (nd cd : Nat) (y : Tr) (hy : TrAt S' n u C nc cc D nd cd y) (h1 : FitN (n + 1) y) (h2 : OkN (n + 1) y) => pvtree_any hok n SS S' u _ _ _ _ _ _ t C nc cc D nd cd y (env.rolls hb) (scAt_bel h hb) hy h1 h2)
  have HBX := Lib.hid (bx2_start w #[.slice A ne ca, .slice A2 nm ca2] #[.slice B na cb, .slice B2 nr cr] 25 29)
  have HK : Hid (∀ u, Bx2 w u (.cells #[.slice A ne ca, .slice A2 nm ca2] 25 (0, 0)) (.cells #[.slice B na cb, .slice B2 nr cr] 29 (0, 0)) → u.cell? ⟨w.heap.size, 0, none⟩ = some (.slice A ne ca) ∧ u.cell? ⟨w.heap.size, 1, none⟩ = some (.slice A2 nm ca2) ∧ u.cell? ⟨w.heap.size + 1, 0, none⟩ = some (.slice B na cb) ∧ u.cell? ⟨w.heap.size + 1, 1, none⟩ = some (.slice B2 nr cr)) := Lib.hid (fun u hu => ⟨obj_cell hu.b2_one 0, obj_cell hu.b2_one 1, obj_cell hu.b2_two 0, obj_cell hu.b2_two 1⟩)
  obtain ⟨r0, r1, s0, s1⟩ := HK.out _ HBX.out
  obtain ⟨q1, q2, q3, q4⟩ := trAt_max hx
  have HEMT := Lib.hid (tree_empty s 0 t)
  rw [HEMT.out] at HEM
  cases hs : smallT s with
  | false =>
    rw [hs] at HSM
    clear env h hok hx ho hs hS HST HK HME HEM HPT
    generalize strOf t = st at *
    go_enter Tryd.func5, Tryd.ntmps5
    go_wp2_with (first
      | (go_at_call 6; refine (HSM.out _ HBX.out.b2_bel).mono ?_; rintro e w1 ⟨rfl, hb⟩; replace HBX := Lib.hid (bx2_step HBX.out hb); clear hb)
      | (go_at_call 8; refine (HLV.out _ HBX.out.b2_bel).mono ?_; rintro e w4 ⟨rfl, hb⟩; replace HBX := Lib.hid (bx2_step HBX.out hb); clear hb))
    go_ret
    exact ⟨rfl, HBX.out.b2_bel⟩
  | true =>
    rw [hs] at HSM
    cases hy : smallTr n x with
    | false =>
      rw [hy] at HST
      clear env h hok hx ho hs hy hS HME HEM HPT
      generalize strOf t = st at *
      go_enter Tryd.func5, Tryd.ntmps5
      go_wp2_with (first
        | (go_at_call 6; refine (HSM.out _ HBX.out.b2_bel).mono ?_; rintro e w1 ⟨rfl, hb⟩; replace HBX := Lib.hid (bx2_step HBX.out hb); obtain ⟨r0, r1, s0, s1⟩ := HK.out _ HBX.out; clear hb)
        | (go_at_call 7; refine (HST.out _ HBX.out.b2_bel).mono ?_; rintro e w2 ⟨rfl, hb⟩; replace HBX := Lib.hid (bx2_step HBX.out hb); clear hb)
        | (go_at_call 8; refine (HLV.out _ HBX.out.b2_bel).mono ?_; rintro e w4 ⟨rfl, hb⟩; replace HBX := Lib.hid (bx2_step HBX.out hb); clear hb))
      go_ret
      exact ⟨rfl, HBX.out.b2_bel⟩
    | true =>
      rw [hy] at HST
      obtain ⟨hf, _, _⟩ := small_fits hy
      have hokn := ho (n + 1)
      obtain ⟨msg, hmsg⟩ : ∃ z, z = messageT s t := ⟨_, rfl⟩
      rw [← hmsg] at HEM HME
      have HP := Lib.hid (fun u (hb : Below w.heap.size w u) => HPT.out u hb S _ _ _ _ _ _ x (trAt_bel hx hb) hf hokn)
      obtain ⟨tb, htb⟩ : ∃ b, b = treeN s (n + 1) t x := ⟨_, rfl⟩
      rw [← htb] at HP
      have HTB := Lib.hid htb
      have HX := Lib.hid hx
      have HS := Lib.hid hS
      have HF := Lib.hid hf
      have HO := Lib.hid hokn
      have h1000 : na ≤ 1000 := by have := hf.1; have := hx.t_ns; omega
      have h1001 : nr ≤ 1000 := by have := hf.2.1; have := hx.t_nr; omega
      clear env h hok hx ho hs hy hS hf hokn htb hmsg HEMT
      obtain ⟨st, hst⟩ : ∃ st, st = strOf t := ⟨_, rfl⟩
      rw [← hst] at HEM HME HP HPT ⊢
      clear hst
      obtain ⟨eb, heb⟩ : ∃ eb, eb = decide (0 ≤ msg) := ⟨_, rfl⟩
      have heb2 : decide (msg ≥ 0) = eb := heb.symm
      have heb3 : decide (0 ≤ msg) = eb := heb.symm
      rw [← heb] at HEM
      clear heb
      go_enter Tryd.func5, Tryd.ntmps5
      go_wp2_with (first
        | (go_at_call 6; refine (HSM.out _ HBX.out.b2_bel).mono ?_; rintro e w1 ⟨rfl, hb⟩; replace HBX := Lib.hid (bx2_step HBX.out hb); obtain ⟨r0, r1, s0, s1⟩ := HK.out _ HBX.out; clear hb)
        | (go_at_call 7; refine (HST.out _ HBX.out.b2_bel).mono ?_; rintro e w2 ⟨rfl, hb⟩; replace HBX := Lib.hid (bx2_step HBX.out hb); obtain ⟨r0, r1, s0, s1⟩ := HK.out _ HBX.out; clear hb))
      have HBY := HBX
      replace HBX := Lib.hid (bx2_step HBX.out (drewN_under _ 1))
      have hneq := neq_bool eb
      go_region_held3 (fun u => u.cell? ⟨w.heap.size, 0, none⟩ = some (.slice A ne ca) ∧ u.cell? ⟨w.heap.size, 1, none⟩ = some (.slice A2 nm ca2) ∧ u.cell? ⟨w.heap.size + 1, 0, none⟩ = some (.slice B na cb) ∧ u.cell? ⟨w.heap.size + 1, 1, none⟩ = some (.slice B2 nr cr))
        (first | exact HK.out _ HBX.out | exact HK.out _ HBY.out)
        (first
          | (go_at_call 9; refine (HEM.out _ HBX.out.b2_bel).mono ?_; rintro e u1 ⟨rfl, hb⟩; replace HBX := Lib.hid (bx2_step HBX.out hb); clear hb)
          | (go_at_call 15; refine (HME.out _ HBX.out.b2_bel).mono ?_; rintro e u2 ⟨rfl, hb⟩; replace HBX := Lib.hid (bx2_step HBX.out hb); clear hb))
      obtain ⟨r0, r1, s0, s1⟩ := HK.out _ HBX.out
      clear HBY HEM HME HSM HST
      cases tb with
      | false =>
        go_wp2_with (first
          | (go_at_call 9; refine (HP.out _ HBX.out.b2_bel).mono ?_; rintro e w4 ⟨rfl, hb⟩; replace HBX := Lib.hid (bx2_step HBX.out hb); clear hb)
          | (go_at_call 8; refine (HLV.out _ HBX.out.b2_bel).mono ?_; rintro e w5 ⟨rfl, hb⟩; replace HBX := Lib.hid (bx2_step HBX.out hb); clear hb))
        go_ret
        exact ⟨rfl, HBX.out.b2_bel⟩
      | true =>
        go_wp2_with (go_at_call 9; refine (HP.out _ HBX.out.b2_bel).mono ?_; rintro e w4 ⟨rfl, hb⟩; replace HBX := Lib.hid (bx2_step HBX.out hb); clear hb)
        clear r0 r1 s0 s1 HP
        go_loopg [7] na (fun gz x7 wr => ∃ i : Nat, x7 = .int .i64 (i : Int) ∧ i + gz = na ∧ Bx2 w wr (.cells #[.slice A ne ca, .slice A2 nm ca2] 25 (0, 0)) (.cells #[.slice B na cb, .slice B2 nr cr] 29 (0, 0)))
        case atStart => exact ⟨0, rfl, by omega, HBX.out⟩
        case round =>
          obtain ⟨i, rfl, hi, hbx⟩ := hrel
          replace HBX := Lib.hid hbx
          clear hbx
          obtain ⟨g0, hg0⟩ : ∃ g0, g0 = gk := ⟨_, rfl⟩
          subst hg0
          obtain ⟨r0, r1, s0, s1⟩ := HK.out _ HBX.out
          by_cases hlt : i < na
          · have ti : decide ((i : Int) < (na : Int)) = true := decide_eq_true (by omega)
            obtain ⟨y, hy⟩ : ∃ y, x.slots[i]? = some y := ⟨_, List.getElem?_eq_getElem (by have := HX.out.t_ns; omega)⟩
            obtain ⟨gv, ov, C9, c9, hB, _⟩ := sl_at HX.out.t_s hy
            subst hB
            have hl := HX.out.t_s
            have hlw := vxs_lt HBX.out
            obtain ⟨hvx, hE⟩ := vxs_made HBX.out #[.slice (some ⟨gv, ov, none⟩) na cb, .slice B2 nr cr] 42
            obtain ⟨i0, hi0, hi1, hi2, hi3⟩ := info_ofs info_slt
            have hNE := HX.out.t_ns
            have hcap : na ≤ cb := by have := hl.l_le; omega
            obtain ⟨AD, hAD⟩ : ∃ AD : Option Addr, (if cb = i + 1 then (some ⟨gv, ov, none⟩ : Option Addr) else some ⟨gv, ov + (i + 1) * 2, none⟩) = AD := ⟨_, rfl⟩
            have hld : Lst 2 S (slR (trR S n) S) w AD (cb - (i + 1)) (x.slots.drop (i + 1)) := by
              rw [← hAD]
              split
              · rename_i hcb
                have h0 : x.slots.drop (i + 1) = [] := List.drop_of_length_le (by omega)
                rw [h0]
                exact lst_empty _ _ _ (by have := hl.l_max; omega) (fun e => by cases e)
              · exact lst_drop hl (by omega)
            have HA1 := Lib.hid (ownL_many (P := Tryd.prog) (R := (slR (trR S n) S) w) 26 Tryd.underlying26 hi0 hi1 hi2 hi3 (by decide) (by decide) (ownL_block0 (R := (slR (trR S n) S) w) (base := wr.heap.size + 1) hE (Nat.le_refl _)) (lst_take (lst_keep (R' := fun _ => slR (trR S n) S w) hl (fun _ _ h => h) (fun _ h => h) (stay_bel hvx.x_b.b2_bel)) i) (m := i) (by rw [List.length_take]; omega) (fun cs z h => ⟨h, sl_one cs z h⟩) (by simp; omega) (by decide) (by have := lt_of_block hE; omega))
            have HA2 := Lib.hid (fun u v (ho : OwnL (wr.heap.size + 1) 42 2 ((slR (trR S n) S) w) u v ([] ++ x.slots.take i)) (hb : Below w.heap.size w u) (hsz : wr.heap.size + 1 ≤ u.heap.size) => ownL_many (P := Tryd.prog) (R := (slR (trR S n) S) w) 26 Tryd.underlying26 hi0 hi1 hi2 hi3 (by decide) (by decide) ho (lst_keep (R' := fun _ => slR (trR S n) S w) hld (fun _ _ h => h) (fun _ h => h) (stay_bel hb)) (m := na - (i + 1)) (by rw [List.length_drop]; omega) (fun cs z h => ⟨h, sl_one cs z h⟩) (by rw [List.nil_append, List.length_take]; omega) (by decide) hsz)
            have HVX := Lib.hid hvx
            have HLW := Lib.hid hlw
            have HE := Lib.hid hE
            have hic : i ≤ cb := by omega
            have hic2 : (i : Int) ≤ (cb : Int) := by omega
            have hwr : IntKind.i64.wrap ((i : Int) + 1) = (i : Int) + 1 := by rw [IntKind.wrap_i64]; omega
            have hp0 : (0 : Int) ≤ (i : Int) + 1 := by omega
            have hp1 : (i : Int) + 1 ≤ (na : Int) := by omega
            have hp2 : ((i : Int) + 1).toNat = i + 1 := by omega
            have hp3 : i + 1 ≤ na := by omega
            have HSUB := Lib.hid (less_sub hy)
            have k0 := obj_cell hvx.x_b.b2_two 0
            have k1 := obj_cell hvx.x_b.b2_two 1
            clear hy hl hlw hvx hE hi0 hi1 hi2 hi3 hNE hld
            have HKS : Hid (∀ u, Bx2 w u (.cells #[.slice A ne ca, .slice A2 nm ca2] 25 (0, 0)) (.cells #[.slice (some ⟨gv, ov, none⟩) na cb, .slice B2 nr cr] 29 (0, 0)) → u.cell? ⟨w.heap.size + 1, 0, none⟩ = some (.slice (some ⟨gv, ov, none⟩) na cb)) := Lib.hid (fun u hu => (HK.out u hu).2.2.1)
            have HB1 := Lib.hid (bx2_step HBX.out ((Below.refl _ wr).alloc (Nat.le_refl _) (.cells #[.slice (some ⟨gv, ov, none⟩) na cb, .slice B2 nr cr] 29)))
            have HB2 := Lib.hid (bx2_step HB1.out (drewN_under _ 1))
            clear k0 k1 r0 r1
            go_wp2
            go_region_held3 (fun u => u.cell? ⟨w.heap.size + 1, 0, none⟩ = some (.slice (some ⟨gv, ov, none⟩) na cb))
              (first | exact HKS.out _ (HV3.out.store HLW.out 0 _).x_b | exact HKS.out _ HV3.out.x_b | exact HKS.out _ HV2.out.x_b | exact HKS.out _ HVX.out.x_b | exact HKS.out _ HB2.out | exact HKS.out _ HB1.out)
              (first
                | (refine step_append_run (by rfl) _ _ (by rfl) (by rfl) (by rfl) HA1.out ?_; rintro v2 u2 ⟨ho, hg, -⟩; obtain ⟨A7, n7, c7, rfl⟩ := ownL_slc ho; have k7 := HKS.out _ (HVX.out.grow HLW.out (ownL_block0 (k := 2) (R := (slR (trR S n) S) w) (base := wr.heap.size + 1) HE.out (Nat.le_refl _)) hg).x_b; have HV2 := Lib.hid (HVX.out.grow HLW.out (ownL_block0 (k := 2) (R := (slR (trR S n) S) w) (base := wr.heap.size + 1) HE.out (Nat.le_refl _)) hg); have HO2 := Lib.hid ho; clear ho hg HA1)
                | (refine step_append_run (by rfl) _ _ (by rfl) (by rfl) (by rfl) (HA2.out _ _ HO2.out HV2.out.x_b.b2_bel (by have := lt_of_block HV2.out.x_x; omega)) ?_; rintro v3 u3 ⟨ho, hg, -⟩; obtain ⟨A8, n8, c8, rfl⟩ := ownL_slc ho; have HV3 := Lib.hid (HV2.out.grow HLW.out HO2.out hg); have HO3 := Lib.hid ho; have y0 := obj_free HV3.out.x_x 0; have y1 := obj_cell HV3.out.x_x 0; clear ho hg))
            have HV4 : Hid (VxS w wr (.cells #[.slice A ne ca, .slice A2 nm ca2] 25 (0, 0)) (.cells #[.slice (some ⟨gv, ov, none⟩) na cb, .slice B2 nr cr] 29 (0, 0)) #[.slice A8 n8 c8, .slice B2 nr cr] (u3.setCell ⟨wr.heap.size, 0, none⟩ (.slice A8 n8 c8))) := Lib.hid (HV3.out.store HLW.out 0 _)
            have hO4 := ownL_store HO3.out 0 (.slice A8 n8 c8)
            rw [List.nil_append] at hO4
            obtain ⟨A', c', he, hT⟩ := vx_slots HX.out HS.out HV4.out.x_b.b2_bel hO4
            injection he with e1 e2 e3
            subst e1 e3
            rw [← e2] at hT
            have hs1 : (Tr.mk (x.slots.take i ++ x.slots.drop (i + 1)) x.rest).slots.Sublist x.slots := HSUB.out
            have hs2 : (Tr.mk (x.slots.take i ++ x.slots.drop (i + 1)) x.rest).rest.Sublist x.rest := (List.Sublist.refl _)
            have hP := HPT.out _ HV4.out.x_b.b2_bel _ _ _ _ _ _ _ _ hT (fit_less HF.out hs1 hs2) (ok_less HO.out hs1 hs2)
            rw [tree_less HTB.out.symm hs1 hs2] at hP
            have HPX := Lib.hid hP
            obtain ⟨r0, r1, _, _⟩ := HK.out _ HV4.out.x_b
            have x0 := obj_cell HV4.out.x_x 0
            have x1 := obj_cell HV4.out.x_x 1
            clear hO4 hT hP e2 y0 y1 hs1 hs2
            go_wp2_with (go_at_call 9; refine HPX.out.mono ?_; rintro e w9 ⟨rfl, hb⟩; replace HBX := Lib.hid (bx2_step HV4.out.x_b hb); clear hb)
            go_roundg (g0 - 1)
            case measure => omega
            case rel => exact ⟨i + 1, by go_num, by omega, HBX.out⟩

          · have ti : decide ((i : Int) < (na : Int)) = false := decide_eq_false (by omega)
            go_wp2
            clear r0 r1 s0 s1
            go_loopg [9] nr (fun gz x9 wr => ∃ i : Nat, x9 = .int .i64 (i : Int) ∧ i + gz = nr ∧ Bx2 w wr (.cells #[.slice A ne ca, .slice A2 nm ca2] 25 (0, 0)) (.cells #[.slice B na cb, .slice B2 nr cr] 29 (0, 0)))
            case atStart => exact ⟨0, rfl, by omega, HBX.out⟩
            case round =>
              obtain ⟨q, rfl, hq, hbx⟩ := hrel
              replace HBX := Lib.hid hbx
              clear hbx
              obtain ⟨g1, hg1⟩ : ∃ g1, g1 = gk := ⟨_, rfl⟩
              subst hg1
              obtain ⟨r0, r1, s0, s1⟩ := HK.out _ HBX.out
              by_cases hltq : q < nr
              · have tq : decide ((q : Int) < (nr : Int)) = true := decide_eq_true (by omega)
                obtain ⟨y, hy⟩ : ∃ y, x.rest[q]? = some y := ⟨_, List.getElem?_eq_getElem (by have := HX.out.t_nr; omega)⟩
                obtain ⟨gv, ov,  hB, _⟩ := rw_at HX.out.t_r hy
                subst hB
                have hl := HX.out.t_r
                have hlw := vxs_lt HBX.out
                obtain ⟨hvx, hE⟩ := vxs_made HBX.out #[.slice B na cb, .slice (some ⟨gv, ov, none⟩) nr cr] 64
                obtain ⟨i0, hi0, hi1, hi2, hi3⟩ := info_ofs info_rws
                have hNE := HX.out.t_nr
                have hcap : nr ≤ cr := by have := hl.l_le; omega
                obtain ⟨AD, hAD⟩ : ∃ AD : Option Addr, (if cr = q + 1 then (some ⟨gv, ov, none⟩ : Option Addr) else some ⟨gv, ov + (q + 1) * 4, none⟩) = AD := ⟨_, rfl⟩
                have hld : Lst 4 S rwR w AD (cr - (q + 1)) (x.rest.drop (q + 1)) := by
                  rw [← hAD]
                  split
                  · rename_i hcb
                    have h0 : x.rest.drop (q + 1) = [] := List.drop_of_length_le (by omega)
                    rw [h0]
                    exact lst_empty _ _ _ (by have := hl.l_max; omega) (fun e => by cases e)
                  · exact lst_drop hl (by omega)
                have HA1 := Lib.hid (ownL_many (P := Tryd.prog) (R := rwR w) 27 Tryd.underlying27 hi0 hi1 hi2 hi3 (by decide) (by decide) (ownL_block0 (R := rwR w) (base := wr.heap.size + 1) hE (Nat.le_refl _)) (lst_take (lst_keep (R' := fun _ => rwR w) hl (fun _ _ h => h) (fun _ h => h) (stay_bel hvx.x_b.b2_bel)) q) (m := q) (by rw [List.length_take]; omega) (fun cs z h => ⟨h, (rw_one (w := w)) cs z h⟩) (by simp; omega) (by decide) (by have := lt_of_block hE; omega))
                have HA2 := Lib.hid (fun u v (ho : OwnL (wr.heap.size + 1) 64 4 (rwR w) u v ([] ++ x.rest.take q)) (hb : Below w.heap.size w u) (hsz : wr.heap.size + 1 ≤ u.heap.size) => ownL_many (P := Tryd.prog) (R := rwR w) 27 Tryd.underlying27 hi0 hi1 hi2 hi3 (by decide) (by decide) ho (lst_keep (R' := fun _ => rwR w) hld (fun _ _ h => h) (fun _ h => h) (stay_bel hb)) (m := nr - (q + 1)) (by rw [List.length_drop]; omega) (fun cs z h => ⟨h, (rw_one (w := w)) cs z h⟩) (by rw [List.nil_append, List.length_take]; omega) (by decide) hsz)
                have HVX := Lib.hid hvx
                have HLW := Lib.hid hlw
                have HE := Lib.hid hE
                have hic : q ≤ cr := by omega
                have hic2 : (q : Int) ≤ (cr : Int) := by omega
                have hwr : IntKind.i64.wrap ((q : Int) + 1) = (q : Int) + 1 := by rw [IntKind.wrap_i64]; omega
                have hp0 : (0 : Int) ≤ (q : Int) + 1 := by omega
                have hp1 : (q : Int) + 1 ≤ (nr : Int) := by omega
                have hp2 : ((q : Int) + 1).toNat = q + 1 := by omega
                have hp3 : q + 1 ≤ nr := by omega
                have HSUB := Lib.hid (less_sub hy)
                have k0 := obj_cell hvx.x_b.b2_two 0
                have k1 := obj_cell hvx.x_b.b2_two 1
                clear hy hl hlw hvx hE hi0 hi1 hi2 hi3 hNE hld
                have HKS : Hid (∀ u, Bx2 w u (.cells #[.slice A ne ca, .slice A2 nm ca2] 25 (0, 0)) (.cells #[.slice B na cb, .slice (some ⟨gv, ov, none⟩) nr cr] 29 (0, 0)) → u.cell? ⟨w.heap.size + 1, 1, none⟩ = some (.slice (some ⟨gv, ov, none⟩) nr cr)) := Lib.hid (fun u hu => (HK.out u hu).2.2.2)
                have HB1 := Lib.hid (bx2_step HBX.out ((Below.refl _ wr).alloc (Nat.le_refl _) (.cells #[.slice B na cb, .slice (some ⟨gv, ov, none⟩) nr cr] 29)))
                have HB2 := Lib.hid (bx2_step HB1.out (drewN_under _ 1))
                clear k0 k1 r0 r1
                go_wp2
                go_region_held3 (fun u => u.cell? ⟨w.heap.size + 1, 1, none⟩ = some (.slice (some ⟨gv, ov, none⟩) nr cr))
                  (first | exact HKS.out _ (HV3.out.store HLW.out 1 _).x_b | exact HKS.out _ HV3.out.x_b | exact HKS.out _ HV2.out.x_b | exact HKS.out _ HVX.out.x_b | exact HKS.out _ HB2.out | exact HKS.out _ HB1.out)
                  (first
                    | (refine step_append_run (by rfl) _ _ (by rfl) (by rfl) (by rfl) HA1.out ?_; rintro v2 u2 ⟨ho, hg, -⟩; obtain ⟨A7, n7, c7, rfl⟩ := ownL_slc ho; have k7 := HKS.out _ (HVX.out.grow HLW.out (ownL_block0 (k := 4) (R := rwR w) (base := wr.heap.size + 1) HE.out (Nat.le_refl _)) hg).x_b; have HV2 := Lib.hid (HVX.out.grow HLW.out (ownL_block0 (k := 4) (R := rwR w) (base := wr.heap.size + 1) HE.out (Nat.le_refl _)) hg); have HO2 := Lib.hid ho; clear ho hg HA1)
                    | (refine step_append_run (by rfl) _ _ (by rfl) (by rfl) (by rfl) (HA2.out _ _ HO2.out HV2.out.x_b.b2_bel (by have := lt_of_block HV2.out.x_x; omega)) ?_; rintro v3 u3 ⟨ho, hg, -⟩; obtain ⟨A8, n8, c8, rfl⟩ := ownL_slc ho; have HV3 := Lib.hid (HV2.out.grow HLW.out HO2.out hg); have HO3 := Lib.hid ho; have y0 := obj_free HV3.out.x_x 1; have y1 := obj_cell HV3.out.x_x 1; clear ho hg))
                have HV4 : Hid (VxS w wr (.cells #[.slice A ne ca, .slice A2 nm ca2] 25 (0, 0)) (.cells #[.slice B na cb, .slice (some ⟨gv, ov, none⟩) nr cr] 29 (0, 0)) #[.slice B na cb, .slice A8 n8 c8] (u3.setCell ⟨wr.heap.size, 1, none⟩ (.slice A8 n8 c8))) := Lib.hid (HV3.out.store HLW.out 1 _)
                have hO4 := ownL_store HO3.out 1 (.slice A8 n8 c8)
                rw [List.nil_append] at hO4
                obtain ⟨A', c', he, hT⟩ := vx_rest HX.out HS.out HV4.out.x_b.b2_bel hO4
                injection he with e1 e2 e3
                subst e1 e3
                rw [← e2] at hT
                have hs1 : (Tr.mk x.slots (x.rest.take q ++ x.rest.drop (q + 1))).slots.Sublist x.slots := (List.Sublist.refl _)
                have hs2 : (Tr.mk x.slots (x.rest.take q ++ x.rest.drop (q + 1))).rest.Sublist x.rest := HSUB.out
                have hP := HPT.out _ HV4.out.x_b.b2_bel _ _ _ _ _ _ _ _ hT (fit_less HF.out hs1 hs2) (ok_less HO.out hs1 hs2)
                rw [tree_less HTB.out.symm hs1 hs2] at hP
                have HPX := Lib.hid hP
                obtain ⟨r0, r1, _, _⟩ := HK.out _ HV4.out.x_b
                have x0 := obj_cell HV4.out.x_x 0
                have x1 := obj_cell HV4.out.x_x 1
                clear hO4 hT hP e2 y0 y1 hs1 hs2
                go_wp2_with (go_at_call 9; refine HPX.out.mono ?_; rintro e w9 ⟨rfl, hb⟩; replace HBX := Lib.hid (bx2_step HV4.out.x_b hb); clear hb)
                go_roundg (g1 - 1)
                case measure => omega
                case rel => exact ⟨q + 1, by go_num, by omega, HBX.out⟩

              · have tq : decide ((q : Int) < (nr : Int)) = false := decide_eq_false (by omega)
                go_wp2_with (go_at_call 8; refine (HLV.out _ HBX.out.b2_bel).mono ?_; rintro e w9 ⟨rfl, hb⟩; replace HBX := Lib.hid (bx2_step HBX.out hb); clear hb)
                go_ret
                exact ⟨rfl, HBX.out.b2_bel⟩
end Go.Proofs.YtmdekdmcnnbofaaDoor
