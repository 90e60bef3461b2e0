/- Several texts in one: FdKin. What each proves, and its conditions, stands at its own head. -/
import Derived.Test.YtmajhjkibmbikaaPkP13
import Derived.Test.YtmajhjkibmbikaaPkP7
import Derived.Test.YtmajhjkibmbikaaPkP21
import Derived.Test.YtmajhjkibmbikaaChecked
import Derived.Deep.RegionHeld3
import Derived.Deep.RegionWith
import Derived.WalkKit
import Derived.RowKitTokens
import Derived.Test.YtmajhjkibmbikaaPkP12
import Derived.Test.YtmajhjkibmbikaaPkP15
import Derived.Test.YtmajhjkibmbikaaPkP17
import Derived.Test.YtmajhjkibmbikaaPkP16
import Derived.Test.YtmajhjkibmbikaaPkP9
import Derived.Test.YtmajhjkibmbikaaPkP0
import Derived.OwnWalk
import Derived.Lib.Hide
import Derived.Lib.BitFns
import Derived.Laws.BitsLemmas
import Derived.Lib.EndianBits
import Derived.RowKit
import Derived.Test.YtmajhjkibmbikaaPkP2
import Derived.Test.YtmajhjkibmbikaaPkP11
import Derived.IntWalk
import Derived.Test.YtmajhjkibmbikaaPkP22
import Derived.Shelf.Abstract
/- What is asked of the program's Kin (layer 16), and the laws FindKin and FindCloses over it. Conditions: those that each theorem names. -/
namespace Go.Proofs.Ytmajhjkibmbikaa
open Go.RowKit
set_option linter.unusedVariables false
set_option maxRecDepth 100000

/-- As many as are asked for. -/
def kinCut (l : List (List UInt8)) (most : Int) : List (List UInt8) := if 1 ≤ most ∧ most ≤ (l.length : Int) then l.take most.toNat else l
/-- What is asked: the function that Kin answers hands one name after the other to the law's own. -/
structure FindKinOk (E : World → Prop) : Prop where
  fkin : ∀ (S : Nat → Nat → Prop) w A n cap A2 n2 cap2 s (pb pm b0 : Nat) (most : Int) (v : Value), E w → ScAt S w A n cap A2 n2 cap2 s → ScOk s → smallT s = true → (∀ k g, S k g → g < b0) → pm < b0 → b0 ≤ pb → Int64 most →
    w.heap[pb]? = some (.cells #[v] 39 (0, 0)) → w.heap[pm]? = some (.cells #[.int .i64 most] 3 (0, 0)) → w.ownsRow b0 9 1 v 0 (txts []) →
    Calls Try.prog 39 #[.agg #[.slice A n cap, .slice A2 n2 cap2]] w fun e w' => ∃ kf caps, e = .returned (.func (.func kf) #[] caps) ∧ Enters Try.prog kf ∧ Below w.heap.size w w' ∧
      Calls Try.prog kf (#[.func (.func 40) #[] #[.pointer (some ⟨pb, 0, none⟩), .pointer (some ⟨pm, 0, none⟩)]] ++ caps) w' fun e w2 => (∃ v, e = .returned v) ∧ Below b0 w' w2 ∧
        ∃ v', w2.heap[pb]? = some (.cells #[v'] 39 (0, 0)) ∧ w2.ownsRow b0 9 1 v' (kinCut (kinT s) most).length (txts (kinCut (kinT s) most))

theorem allocs4 (w : World) (o1 o2 o3 o4 : Obj) (w3 : World) (h : w3 = (((w.alloc o1).alloc o2).alloc o3).alloc o4) :
    w3.heap[w.heap.size]? = some o1 ∧ w3.heap[w.heap.size + 1]? = some o2 ∧ w3.heap[w.heap.size + 1 + 1]? = some o3 ∧ w3.heap[w.heap.size + 1 + 1 + 1]? = some o4 ∧ Below w.heap.size w w3 := by
  have s1 : (w.alloc o1).heap.size = w.heap.size + 1 := by simp
  have s2 : ((w.alloc o1).alloc o2).heap.size = w.heap.size + 1 + 1 := by simp
  have s3 : (((w.alloc o1).alloc o2).alloc o3).heap.size = w.heap.size + 1 + 1 + 1 := by simp
  subst h
  refine ⟨?_, ?_, ?_, ?_, (((Below.refl _ w).alloc (Nat.le_refl _) _).alloc (by simp) _).alloc (by simp; omega) _ |>.alloc (by simp; omega) _⟩
  · rw [Below.heap_alloc _ _ _ (by omega), Below.heap_alloc _ _ _ (by omega), Below.heap_alloc _ _ _ (by omega)]; exact heap_alloc_new w o1
  · rw [Below.heap_alloc _ _ _ (by omega), Below.heap_alloc _ _ _ (by omega), ← s1]; exact heap_alloc_new _ o2
  · rw [Below.heap_alloc _ _ _ (by omega), ← s2]; exact heap_alloc_new _ o3
  · rw [← s3]; exact heap_alloc_new _ o4

set_option maxHeartbeats 8000000 in
theorem lawkin_any {E : World → Prop} (hr : ∀ w w', E w → Below w.heap.size w w' → E w') (okk : FindKinOk E) (w : World) (env : E w) {S : Nat → Nat → Prop} {A A2 : Option Addr} {n cap n2 cap2 : Nat} {s : Sc} (h : ScAt S w A n cap A2 n2 cap2 s) (hS : ∀ k g, S k g → g < w.heap.size) (hok : ScOk s) (hs : smallT s = true) (most : Int) (hm : Int64 most) :
    Calls Try.prog 23 #[.agg #[.slice A n cap, .slice A2 n2 cap2], .int .i64 most] w fun e w' => ∃ Al no c, e = .returned (.tuple #[.slice Al no c, .bool true]) ∧ no = (kinCut (kinT s) most).length ∧ Sl w' Al c (txts (kinCut (kinT s) most)) ∧ Below w.heap.size w w' := by
  obtain ⟨w4, hw4⟩ : ∃ w4, w4 = (((w.alloc (.cells #[.slice A n cap, .slice A2 n2 cap2] 25)).alloc (.cells #[.int .i64 most] 3)).alloc (.cells #[] 9)).alloc (.cells #[.slice (some ⟨w.heap.size + 1 + 1, 0, none⟩) 0 0] 39) := ⟨_, rfl⟩
  obtain ⟨k1, k2, k3, k4, hb4⟩ := allocs4 _ _ _ _ _ _ hw4
  have HK := Lib.hid (okk.fkin S w4 A n cap A2 n2 cap2 s (w.heap.size + 1 + 1 + 1) (w.heap.size + 1) (w.heap.size + 1 + 1) most _ (hr _ _ env hb4) (scAt_bel h hb4) hok hs (fun k g hk => by have := hS k g hk; omega) (by omega) (by omega) hm k4 k2
    ⟨rfl, .inr ⟨w.heap.size + 1 + 1, 0, #[], rfl, Nat.le_refl _, k3, Nat.le_refl _, by decide, rfl, rfl⟩⟩)
  have HW4 := Lib.hid hw4
  have HB4 := Lib.hid hb4
  have HFN : ∀ (kf : Nat) (caps : Array Value) (w : World), (binOp .eql 58 (.func (.func kf) #[] caps) .nilFunc).run Try.prog w = .ok (.bool false) w := fun _ _ _ => rfl
  have r0 := obj_cell k1 0
  have r1 := obj_cell k1 1
  rw [hw4] at r0 r1
  clear hr okk env h hok hs hm k1 k2 k3 k4 hb4 hw4 hS
  go_enter Try.func23, Try.ntmps23
  go_wp2_with (first
    | (go_at_call 39; (with_reducible rw [← HW4.out]); refine HK.out.mono ?_; rintro e w5 ⟨kf, caps, rfl, hen, hb5, hkf⟩; have HB5 := Lib.hid (HB4.out.trans (hb5.mono HB4.out.size)); have hen2 : ∀ args w, (callFunc kf args).run Try.prog w = .ok (.enter kf args) w := hen; have HKF := Lib.hid hkf; clear hen hb5 hkf)
    | (go_at_fn kf; refine HKF.out.mono ?_; rintro e w6 ⟨⟨v, rfl⟩, hb6, v', hx, ho⟩; have HB6 := Lib.hid (HB5.out.trans (hb6.mono (by omega))); have c0 := obj_cell hx 0; have HOW := Lib.hid ho; clear hb6 ho hx))
  obtain ⟨_, Al, c, hv, hsl⟩ := Sl.own HOW.out
  rw [txts_length] at hv
  subst hv
  go_ret2
  exact ⟨Al, _, c, rfl, rfl, hsl, HB6.out⟩

/-- The page's example in memory. -/
theorem lv_in {w wr : World} (g b : Nat) (h1 : wr.heap[g]? = some (.cells #[.string ⟨#[97]⟩, .int .i64 1, .int .i64 15, .string ⟨#[77]⟩, .bool false, .bool false, .string ⟨#[]⟩] 47 (0, 0)))
    (h2 : wr.heap[b]? = some (.cells #[.string ⟨#[77]⟩, .slice (some ⟨g, 0, none⟩) 1 1, .slice none 0 0] 32 (0, 0))) : ScAt (fun _ x => x < wr.heap.size) wr none 0 0 (some ⟨b, 0, none⟩) 1 1 lvS where
  s_e := lst_empty _ _ _ (by decide) (fun _ => rfl)
  s_m := lst_block (l := lvS.msgs) (f := fun _ => [.string ⟨#[77]⟩, .slice (some ⟨g, 0, none⟩) 1 1, .slice none 0 0]) h2 rfl (fun _ => rfl) (fun x hx => by
    obtain rfl : x = ⟨[77], [lvF], []⟩ := by simpa [lvS] using hx
    exact ⟨_, _, _, _, rfl, lst_block (l := [lvF]) (f := fdCells) h1 rfl (fun _ => rfl) (fun _ _ => rfl) (lt_of_block h1) (by decide), lst_empty _ _ _ (by decide) (fun _ => rfl)⟩) (lt_of_block h2) (by decide)
  s_ne := rfl
  s_nm := rfl
theorem lv_kin : kinCut (kinT lvS) 9 = [[77]] := by decide +kernel
theorem lv_uses : usesT lvS [77] = 1 := by decide +kernel

set_option maxHeartbeats 8000000 in
theorem fdlive_any {E : World → Prop} (hr : ∀ w w', E w → Below w.heap.size w w' → E w') (okk : FindKinOk E)
    (hu : ∀ (S : Nat → Nat → Prop) w A n cap A2 n2 cap2 s (t : List UInt8), E w → ScAt S w A n cap A2 n2 cap2 s → ScOk s → smallT s = true → t.length ≤ lenM → Calls Try.prog 12 #[.agg #[.slice A n cap, .slice A2 n2 cap2], .string (strOf t)] w fun e w' => e = .returned (.int .i64 (usesT s t : Int)) ∧ Below w.heap.size w w')
    (w : World) (env : E w) : Calls Try.prog 7 #[] w fun e w' => e = .returned (.bool true) ∧ Below w.heap.size w w' := by
  obtain ⟨w3, hw3⟩ : ∃ w3, w3 = ((w.alloc (.cells #[.string ⟨#[97]⟩, .int .i64 1, .int .i64 15, .string ⟨#[77]⟩, .bool false, .bool false, .string ⟨#[]⟩] 47)).alloc (.cells #[.string ⟨#[77]⟩, .slice (some ⟨w.heap.size, 0, none⟩) 1 1, .slice none 0 0] 32)).alloc (.cells #[.slice none 0 0, .slice (some ⟨w.heap.size + 1, 0, none⟩) 1 1] 25) := ⟨_, rfl⟩
  have hs1 : ∀ o, (w.alloc o).heap.size = w.heap.size + 1 := fun o => World.size_alloc _ _
  have hb : Below w.heap.size w w3 := by rw [hw3]; exact ((((Below.refl _ w).alloc (Nat.le_refl _) _).alloc (by simp) _).alloc (by simp; omega) _)
  have h1 : w3.heap[w.heap.size]? = some (.cells #[.string ⟨#[97]⟩, .int .i64 1, .int .i64 15, .string ⟨#[77]⟩, .bool false, .bool false, .string ⟨#[]⟩] 47 (0, 0)) := by
    rw [hw3, Below.heap_alloc _ _ _ (by simp; omega), Below.heap_alloc _ _ _ (by simp), heap_alloc_new]
  have h2 : w3.heap[w.heap.size + 1]? = some (.cells #[.string ⟨#[77]⟩, .slice (some ⟨w.heap.size, 0, none⟩) 1 1, .slice none 0 0] 32 (0, 0)) := by
    rw [hw3, Below.heap_alloc _ _ _ (by simp), ← hs1, heap_alloc_new]
  have h3 : w3.heap[w.heap.size + 2]? = some (.cells #[.slice none 0 0, .slice (some ⟨w.heap.size + 1, 0, none⟩) 1 1] 25 (0, 0)) := by
    rw [hw3, show w.heap.size + 2 = ((w.alloc (.cells #[.string ⟨#[97]⟩, .int .i64 1, .int .i64 15, .string ⟨#[77]⟩, .bool false, .bool false, .string ⟨#[]⟩] 47)).alloc (.cells #[.string ⟨#[77]⟩, .slice (some ⟨w.heap.size, 0, none⟩) 1 1, .slice none 0 0] 32)).heap.size by simp, heap_alloc_new]
  have HW3 := Lib.hid hw3
  have HB3 := Lib.hid hb
  have hat := lv_in (w := w) _ _ h1 h2
  have HK := Lib.hid (lawkin_any hr okk w3 (hr _ _ env hb) hat (fun _ g hg => hg) lv_ok lv_small 9 (by unfold Int64; omega))
  rw [lv_kin] at HK
  have HU := Lib.hid (fun u (hbu : Below w3.heap.size w3 u) => hu _ u _ _ _ _ _ _ _ [77] (hr _ _ (hr _ _ env hb) hbu) (scAt_bel hat hbu) lv_ok lv_small (by decide))
  rw [lv_uses] at HU
  have HBK : Hid (∀ u, Below w3.heap.size w3 u → u.cell? ⟨w.heap.size + 2, 0, none⟩ = some (.slice none 0 0) ∧ u.cell? ⟨w.heap.size + 2, 1, none⟩ = some (.slice (some ⟨w.heap.size + 1, 0, none⟩) 1 1)) := Lib.hid (fun u hbu => ⟨obj_cell ((hbu.block _ (lt_of_block h3)).trans h3) 0, obj_cell ((hbu.block _ (lt_of_block h3)).trans h3) 1⟩)
  have r0 := obj_cell h3 0
  have r1 := obj_cell h3 1
  rw [hw3] at r0 r1
  clear hr okk hu env hb h1 h2 h3 hw3 hs1 hat
  go_enter Try.func7, Try.ntmps7
  go_wp2_with (first
    | (go_at_call 23; (with_reducible rw [← HW3.out]); refine HK.out.mono ?_; rintro e w5 ⟨Al, no, c, rfl, hno, hsl, hb5⟩; have HSL := Lib.hid hsl; have HNO := Lib.hid hno; have HB5 := Lib.hid hb5; obtain ⟨q0, q1⟩ := HBK.out _ (hb5.alloc hb5.size (.cells #[.string ⟨#[77]⟩] 9)); clear hsl hno hb5)
    | (go_at_call 25; refine (vnames_any _ (sl_bel HSL.out ((Below.refl _ w5).alloc (Nat.le_refl _) (.cells #[.string ⟨#[77]⟩] 9))) (sl_txt1 w5 _ [77] ⟨#[77]⟩ rfl) HNO.out rfl).mono ?_; rintro e w6 ⟨rfl, d, rfl⟩; rw [decide_eq_true (rfl : ([[77]] : List (List UInt8)) = [[77]])]; have HB6 := Lib.hid ((HB5.out.alloc HB5.out.size (.cells #[.string ⟨#[77]⟩] 9)).trans ((drewN_under (w5.alloc (.cells #[.string ⟨#[77]⟩] 9)) d).mono (HB5.out.alloc HB5.out.size _).size)); obtain ⟨q2, q3⟩ := HBK.out _ HB6.out)
    | (go_at_call 12; refine (HU.out _ HB6.out).mono ?_; rintro e w7 ⟨rfl, hb7⟩; have HB7 := Lib.hid (HB6.out.trans (hb7.mono HB6.out.size)); clear hb7))
  go_ret
  exact ⟨rfl, HB3.out.trans (HB7.out.mono HB3.out.size)⟩
end Go.Proofs.Ytmajhjkibmbikaa
