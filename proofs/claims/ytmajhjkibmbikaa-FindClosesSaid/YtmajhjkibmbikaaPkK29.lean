/- Several texts in one: FdKin, FdKi2, FdClo. What each proves, and its conditions, stands at its own head. -/
import Derived.Test.YtmajhjkibmbikaaPkK28
import Derived.Test.YtmajhjkibmbikaaPkK16
import Derived.Test.YtmajhjkibmbikaaPkK21
import Derived.Test.YtmajhjkibmbikaaPkK26
import Derived.Shelf.Abstract
import Derived.Test.YtmajhjkibmbikaaPkK15
/- What is asked of the program's Kin (layer 16), and the laws FindKin and FindCloses over it. Conditions: those that each theorem names. -/
namespace Go.Proofs.Ytmajhjkibmbikaa
open Go.RowKit
set_option linter.unusedVariables false
set_option maxRecDepth 100000

/-- As many as are asked for. -/
def kinCut (l : List (List UInt8)) (most : Int) : List (List UInt8) := if 1 ≤ most ∧ most ≤ (l.length : Int) then l.take most.toNat else l
/-- What is asked: the function that Kin answers hands one name after the other to the law's own. -/
structure FindKinOk (E : World → Prop) : Prop where
  fkin : ∀ (S : Nat → Nat → Prop) w A n cap A2 n2 cap2 s (pb pm b0 : Nat) (most : Int) (v : Value), E w → ScAt S w A n cap A2 n2 cap2 s → ScOk s → smallT s = true → (∀ k g, S k g → g < b0) → pm < b0 → b0 ≤ pb → Int64 most →
    w.heap[pb]? = some (.cells #[v] 39 (0, 0)) → w.heap[pm]? = some (.cells #[.int .i64 most] 3 (0, 0)) → w.ownsRow b0 9 1 v 0 (txts []) →
    Calls Try.prog 39 #[.agg #[.slice A n cap, .slice A2 n2 cap2]] w fun e w' => ∃ kf caps, e = .returned (.func (.func kf) #[] caps) ∧ Enters Try.prog kf ∧ Below w.heap.size w w' ∧
      Calls Try.prog kf (#[.func (.func 40) #[] #[.pointer (some ⟨pb, 0, none⟩), .pointer (some ⟨pm, 0, none⟩)]] ++ caps) w' fun e w2 => (∃ v, e = .returned v) ∧ Below b0 w' w2 ∧
        ∃ v', w2.heap[pb]? = some (.cells #[v'] 39 (0, 0)) ∧ w2.ownsRow b0 9 1 v' (kinCut (kinT s) most).length (txts (kinCut (kinT s) most))

theorem allocs4 (w : World) (o1 o2 o3 o4 : Obj) (w3 : World) (h : w3 = (((w.alloc o1).alloc o2).alloc o3).alloc o4) :
    w3.heap[w.heap.size]? = some o1 ∧ w3.heap[w.heap.size + 1]? = some o2 ∧ w3.heap[w.heap.size + 1 + 1]? = some o3 ∧ w3.heap[w.heap.size + 1 + 1 + 1]? = some o4 ∧ Below w.heap.size w w3 := by
  have s1 : (w.alloc o1).heap.size = w.heap.size + 1 := by simp
  have s2 : ((w.alloc o1).alloc o2).heap.size = w.heap.size + 1 + 1 := by simp
  have s3 : (((w.alloc o1).alloc o2).alloc o3).heap.size = w.heap.size + 1 + 1 + 1 := by simp
  subst h
  refine ⟨?_, ?_, ?_, ?_, (((Below.refl _ w).alloc (Nat.le_refl _) _).alloc (by simp) _).alloc (by simp; omega) _ |>.alloc (by simp; omega) _⟩
  · rw [Below.heap_alloc _ _ _ (by omega), Below.heap_alloc _ _ _ (by omega), Below.heap_alloc _ _ _ (by omega)]; exact heap_alloc_new w o1
  · rw [Below.heap_alloc _ _ _ (by omega), Below.heap_alloc _ _ _ (by omega), ← s1]; exact heap_alloc_new _ o2
  · rw [Below.heap_alloc _ _ _ (by omega), ← s2]; exact heap_alloc_new _ o3
  · rw [← s3]; exact heap_alloc_new _ o4

set_option maxHeartbeats 8000000 in
theorem lawkin_any {E : World → Prop} (hr : ∀ w w', E w → Below w.heap.size w w' → E w') (okk : FindKinOk E) (w : World) (env : E w) {S : Nat → Nat → Prop} {A A2 : Option Addr} {n cap n2 cap2 : Nat} {s : Sc} (h : ScAt S w A n cap A2 n2 cap2 s) (hS : ∀ k g, S k g → g < w.heap.size) (hok : ScOk s) (hs : smallT s = true) (most : Int) (hm : Int64 most) :
    Calls Try.prog 23 #[.agg #[.slice A n cap, .slice A2 n2 cap2], .int .i64 most] w fun e w' => ∃ Al no c, e = .returned (.tuple #[.slice Al no c, .bool true]) ∧ no = (kinCut (kinT s) most).length ∧ Sl w' Al c (txts (kinCut (kinT s) most)) ∧ Below w.heap.size w w' := by
  obtain ⟨w4, hw4⟩ : ∃ w4, w4 = (((w.alloc (.cells #[.slice A n cap, .slice A2 n2 cap2] 25)).alloc (.cells #[.int .i64 most] 3)).alloc (.cells #[] 9)).alloc (.cells #[.slice (some ⟨w.heap.size + 1 + 1, 0, none⟩) 0 0] 39) := ⟨_, rfl⟩
  obtain ⟨k1, k2, k3, k4, hb4⟩ := allocs4 _ _ _ _ _ _ hw4
  have HK := Lib.hid (okk.fkin S w4 A n cap A2 n2 cap2 s (w.heap.size + 1 + 1 + 1) (w.heap.size + 1) (w.heap.size + 1 + 1) most _ (hr _ _ env hb4) (scAt_bel h hb4) hok hs (fun k g hk => by have := hS k g hk; omega) (by omega) (by omega) hm k4 k2
    ⟨rfl, .inr ⟨w.heap.size + 1 + 1, 0, #[], rfl, Nat.le_refl _, k3, Nat.le_refl _, by decide, rfl, rfl⟩⟩)
  have HW4 := Lib.hid hw4
  have HB4 := Lib.hid hb4
  have HFN : ∀ (kf : Nat) (caps : Array Value) (w : World), (binOp .eql 58 (.func (.func kf) #[] caps) .nilFunc).run Try.prog w = .ok (.bool false) w := fun _ _ _ => rfl
  have r0 := obj_cell k1 0
  have r1 := obj_cell k1 1
  rw [hw4] at r0 r1
  clear hr okk env h hok hs hm k1 k2 k3 k4 hb4 hw4 hS
  go_enter Try.func23, Try.ntmps23
  go_wp2_with (first
    | (go_at_call 39; (with_reducible rw [← HW4.out]); refine HK.out.mono ?_; rintro e w5 ⟨kf, caps, rfl, hen, hb5, hkf⟩; have HB5 := Lib.hid (HB4.out.trans (hb5.mono HB4.out.size)); have hen2 : ∀ args w, (callFunc kf args).run Try.prog w = .ok (.enter kf args) w := hen; have HKF := Lib.hid hkf; clear hen hb5 hkf)
    | (go_at_fn kf; refine HKF.out.mono ?_; rintro e w6 ⟨⟨v, rfl⟩, hb6, v', hx, ho⟩; have HB6 := Lib.hid (HB5.out.trans (hb6.mono (by omega))); have c0 := obj_cell hx 0; have HOW := Lib.hid ho; clear hb6 ho hx))
  obtain ⟨_, Al, c, hv, hsl⟩ := Sl.own HOW.out
  rw [txts_length] at hv
  subst hv
  go_ret2
  exact ⟨Al, _, c, rfl, rfl, hsl, HB6.out⟩

/-- The page's example in memory. -/
theorem lv_in {w wr : World} (g b : Nat) (h1 : wr.heap[g]? = some (.cells #[.string ⟨#[97]⟩, .int .i64 1, .int .i64 15, .string ⟨#[77]⟩, .bool false, .bool false, .string ⟨#[]⟩] 47 (0, 0)))
    (h2 : wr.heap[b]? = some (.cells #[.string ⟨#[77]⟩, .slice (some ⟨g, 0, none⟩) 1 1, .slice none 0 0] 32 (0, 0))) : ScAt (fun _ x => x < wr.heap.size) wr none 0 0 (some ⟨b, 0, none⟩) 1 1 lvS where
  s_e := lst_empty _ _ _ (by decide) (fun _ => rfl)
  s_m := lst_block (l := lvS.msgs) (f := fun _ => [.string ⟨#[77]⟩, .slice (some ⟨g, 0, none⟩) 1 1, .slice none 0 0]) h2 rfl (fun _ => rfl) (fun x hx => by
    obtain rfl : x = ⟨[77], [lvF], []⟩ := by simpa [lvS] using hx
    exact ⟨_, _, _, _, rfl, lst_block (l := [lvF]) (f := fdCells) h1 rfl (fun _ => rfl) (fun _ _ => rfl) (lt_of_block h1) (by decide), lst_empty _ _ _ (by decide) (fun _ => rfl)⟩) (lt_of_block h2) (by decide)
  s_ne := rfl
  s_nm := rfl
theorem lv_kin : kinCut (kinT lvS) 9 = [[77]] := by decide +kernel
theorem lv_uses : usesT lvS [77] = 1 := by decide +kernel

set_option maxHeartbeats 8000000 in
theorem fdlive_any {E : World → Prop} (hr : ∀ w w', E w → Below w.heap.size w w' → E w') (okk : FindKinOk E)
    (hu : ∀ (S : Nat → Nat → Prop) w A n cap A2 n2 cap2 s (t : List UInt8), E w → ScAt S w A n cap A2 n2 cap2 s → ScOk s → smallT s = true → t.length ≤ lenM → Calls Try.prog 12 #[.agg #[.slice A n cap, .slice A2 n2 cap2], .string (strOf t)] w fun e w' => e = .returned (.int .i64 (usesT s t : Int)) ∧ Below w.heap.size w w')
    (w : World) (env : E w) : Calls Try.prog 7 #[] w fun e w' => e = .returned (.bool true) ∧ Below w.heap.size w w' := by
  obtain ⟨w3, hw3⟩ : ∃ w3, w3 = ((w.alloc (.cells #[.string ⟨#[97]⟩, .int .i64 1, .int .i64 15, .string ⟨#[77]⟩, .bool false, .bool false, .string ⟨#[]⟩] 47)).alloc (.cells #[.string ⟨#[77]⟩, .slice (some ⟨w.heap.size, 0, none⟩) 1 1, .slice none 0 0] 32)).alloc (.cells #[.slice none 0 0, .slice (some ⟨w.heap.size + 1, 0, none⟩) 1 1] 25) := ⟨_, rfl⟩
  have hs1 : ∀ o, (w.alloc o).heap.size = w.heap.size + 1 := fun o => World.size_alloc _ _
  have hb : Below w.heap.size w w3 := by rw [hw3]; exact ((((Below.refl _ w).alloc (Nat.le_refl _) _).alloc (by simp) _).alloc (by simp; omega) _)
  have h1 : w3.heap[w.heap.size]? = some (.cells #[.string ⟨#[97]⟩, .int .i64 1, .int .i64 15, .string ⟨#[77]⟩, .bool false, .bool false, .string ⟨#[]⟩] 47 (0, 0)) := by
    rw [hw3, Below.heap_alloc _ _ _ (by simp; omega), Below.heap_alloc _ _ _ (by simp), heap_alloc_new]
  have h2 : w3.heap[w.heap.size + 1]? = some (.cells #[.string ⟨#[77]⟩, .slice (some ⟨w.heap.size, 0, none⟩) 1 1, .slice none 0 0] 32 (0, 0)) := by
    rw [hw3, Below.heap_alloc _ _ _ (by simp), ← hs1, heap_alloc_new]
  have h3 : w3.heap[w.heap.size + 2]? = some (.cells #[.slice none 0 0, .slice (some ⟨w.heap.size + 1, 0, none⟩) 1 1] 25 (0, 0)) := by
    rw [hw3, show w.heap.size + 2 = ((w.alloc (.cells #[.string ⟨#[97]⟩, .int .i64 1, .int .i64 15, .string ⟨#[77]⟩, .bool false, .bool false, .string ⟨#[]⟩] 47)).alloc (.cells #[.string ⟨#[77]⟩, .slice (some ⟨w.heap.size, 0, none⟩) 1 1, .slice none 0 0] 32)).heap.size by simp, heap_alloc_new]
  have HW3 := Lib.hid hw3
  have HB3 := Lib.hid hb
  have hat := lv_in (w := w) _ _ h1 h2
  have HK := Lib.hid (lawkin_any hr okk w3 (hr _ _ env hb) hat (fun _ g hg => hg) lv_ok lv_small 9 (by unfold Int64; omega))
  rw [lv_kin] at HK
  have HU := Lib.hid (fun u (hbu : Below w3.heap.size w3 u) => hu _ u _ _ _ _ _ _ _ [77] (hr _ _ (hr _ _ env hb) hbu) (scAt_bel hat hbu) lv_ok lv_small (by decide))
  rw [lv_uses] at HU
  have HBK : Hid (∀ u, Below w3.heap.size w3 u → u.cell? ⟨w.heap.size + 2, 0, none⟩ = some (.slice none 0 0) ∧ u.cell? ⟨w.heap.size + 2, 1, none⟩ = some (.slice (some ⟨w.heap.size + 1, 0, none⟩) 1 1)) := Lib.hid (fun u hbu => ⟨obj_cell ((hbu.block _ (lt_of_block h3)).trans h3) 0, obj_cell ((hbu.block _ (lt_of_block h3)).trans h3) 1⟩)
  have r0 := obj_cell h3 0
  have r1 := obj_cell h3 1
  rw [hw3] at r0 r1
  clear hr okk hu env hb h1 h2 h3 hw3 hs1 hat
  go_enter Try.func7, Try.ntmps7
  go_wp2_with (first
    | (go_at_call 23; (with_reducible rw [← HW3.out]); refine HK.out.mono ?_; rintro e w5 ⟨Al, no, c, rfl, hno, hsl, hb5⟩; have HSL := Lib.hid hsl; have HNO := Lib.hid hno; have HB5 := Lib.hid hb5; obtain ⟨q0, q1⟩ := HBK.out _ (hb5.alloc hb5.size (.cells #[.string ⟨#[77]⟩] 9)); clear hsl hno hb5)
    | (go_at_call 25; refine (vnames_any _ (sl_bel HSL.out ((Below.refl _ w5).alloc (Nat.le_refl _) (.cells #[.string ⟨#[77]⟩] 9))) (sl_txt1 w5 _ [77] ⟨#[77]⟩ rfl) HNO.out rfl).mono ?_; rintro e w6 ⟨rfl, d, rfl⟩; rw [decide_eq_true (rfl : ([[77]] : List (List UInt8)) = [[77]])]; have HB6 := Lib.hid ((HB5.out.alloc HB5.out.size (.cells #[.string ⟨#[77]⟩] 9)).trans ((drewN_under (w5.alloc (.cells #[.string ⟨#[77]⟩] 9)) d).mono (HB5.out.alloc HB5.out.size _).size)); obtain ⟨q2, q3⟩ := HBK.out _ HB6.out)
    | (go_at_call 12; refine (HU.out _ HB6.out).mono ?_; rintro e w7 ⟨rfl, hb7⟩; have HB7 := Lib.hid (HB6.out.trans (hb7.mono HB6.out.size)); clear hb7))
  go_ret
  exact ⟨rfl, HB3.out.trans (HB7.out.mono HB3.out.size)⟩
end Go.Proofs.Ytmajhjkibmbikaa

/- The law FindKin. Conditions: those that each theorem names. -/
namespace Go.Proofs.Ytmajhjkibmbikaa
open Go.RowKit
set_option linter.unusedVariables false
set_option maxRecDepth 100000

theorem sl_take {w : World} {A : Option Addr} {cap k : Nat} {ts : List (List UInt8)} (h : Sl w A cap (txts ts)) (hk : k ≤ ts.length) : Sl w A cap (txts (ts.take k)) := by
  have h1 := h.le
  rw [txts_length] at h1
  refine ⟨by rw [txts_length, List.length_take]; omega, h.max, h.nil, fun j u hj => h.at_ j u ?_⟩
  unfold txts at hj ⊢
  rw [List.map_take] at hj
  have hlt := (List.getElem?_eq_some_iff.mp hj).1
  rw [List.length_take] at hlt
  rwa [List.getElem?_take_of_lt (by omega)] at hj

set_option maxHeartbeats 8000000 in
theorem findkin_walk {E : World → Prop} (ok : FindOk E) (okk : FindKinOk E) (w : World) (env : E w) {S : Nat → Nat → Prop} {A A2 : Option Addr} {n cap n2 cap2 : Nat} {s : Sc} (h : ScAt S w A n cap A2 n2 cap2 s) (hS : ∀ k g, S k g → g < w.heap.size) (hok : ScOk s) (most : Int) (hm : Int64 most) :
    Calls Try.prog 4 #[.agg #[.slice A n cap, .slice A2 n2 cap2], .int .i64 most] w fun e w' => e = .returned (.bool true) ∧ Below w.heap.size w w' := by
  have HLV := Lib.hid (fun u (hb : Below w.heap.size w u) => ok.flive u (ok.feride _ _ env hb))
  have HSM := Lib.hid (fun u (hb : Below w.heap.size w u) => rvsmall_any u (scAt_bel h hb) hok)
  have HBX := Lib.hid (bx_start w #[.slice A n cap, .slice A2 n2 cap2] 25)
  have r0 := obj_cell HBX.out.b_blk 0
  have r1 := obj_cell HBX.out.b_blk 1
  cases hs : smallT s with
  | false =>
    rw [hs] at HSM
    clear ok okk env h hok hs hS
    go_enter Try.func4, Try.ntmps4
    go_wp2_with (first
      | (go_at_call 6; refine (HSM.out _ HBX.out.b_bel).mono ?_; rintro e w1 ⟨rfl, hb⟩; replace HBX := Lib.hid (bx_step HBX.out hb); clear hb)
      | (go_at_call 7; refine (HLV.out _ HBX.out.b_bel).mono ?_; rintro e w4 ⟨rfl, hb⟩; replace HBX := Lib.hid (bx_step HBX.out hb); clear hb))
    go_ret
    exact ⟨rfl, HBX.out.b_bel⟩
  | true =>
    have hsz := small_sizes hs
    have HKN := Lib.hid (fun u (hb : Below w.heap.size w u) => lawkin_any ok.feride okk u (ok.feride _ _ env hb) (scAt_bel h hb) (fun k g hk => Nat.lt_of_lt_of_le (hS k g hk) hb.size) hok hs most hm)
    have HRK := Lib.hid (fun u (hb : Below w.heap.size w u) => rxkin_any u (scAt_bel h hb) (by rw [h.s_nm]; exact hsz.2.1) (fun m hm => (hsz.2.2.2 m hm).1))
    rw [hs] at HSM
    obtain ⟨L, hL⟩ : ∃ L, L = kinT s := ⟨_, rfl⟩
    rw [← hL] at HKN HRK
    clear ok okk env h hok hs hsz hL hS hm
    by_cases hc : 1 ≤ most ∧ most < (L.length : Int)
    · obtain ⟨K, rfl⟩ : ∃ K : Nat, most = (K : Int) := ⟨most.toNat, by omega⟩
      have hK1 : 1 ≤ K := by omega
      have hK2 : K < L.length := by omega
      have HCUT : Hid (kinCut L (K : Int) = L.take K) := Lib.hid (by unfold kinCut; rw [if_pos ⟨hc.1, by omega⟩]; rfl)
      rw [HCUT.out] at HKN
      have g1 : decide ((K : Int) ≥ 1) = true := decide_eq_true hc.1
      have HK1 := Lib.hid hK1
      have HK2 := Lib.hid hK2
      clear hc hK1 hK2
      have g4 : decide (1 ≤ K) = true := decide_eq_true HK1.out
      have g5 : 1 ≤ K := HK1.out
      go_enter Try.func4, Try.ntmps4
      go_wp2_with (first
        | (go_at_call 6; refine (HSM.out _ HBX.out.b_bel).mono ?_; rintro e w1 ⟨rfl, hb⟩; replace HBX := Lib.hid (bx_step HBX.out hb); replace r0 := obj_cell HBX.out.b_blk 0; replace r1 := obj_cell HBX.out.b_blk 1; clear hb)
        | (go_at_call 23; refine (HKN.out _ HBX.out.b_bel).mono ?_; rintro e w2 ⟨Al, no, c, rfl, hno, hsl, hb⟩; have HS1 := Lib.hid hsl; have HN1 := Lib.hid hno; replace HBX := Lib.hid (bx_step HBX.out hb); replace r0 := obj_cell HBX.out.b_blk 0; replace r1 := obj_cell HBX.out.b_blk 1; clear hsl hno hb)
        | (go_at_call 24; refine (HRK.out _ HBX.out.b_bel).mono ?_; rintro e w3 ⟨Am, nm, cm, rfl, hno, hsl, hb⟩; have HS2 := Lib.hid hsl; have HN2 := Lib.hid hno; have HS3 := Lib.hid (sl_bel HS1.out hb); replace HBX := Lib.hid (bx_step HBX.out hb); have g2 : decide ((K : Int) < (nm : Int)) = true := decide_eq_true (by have := HK2.out; omega); have g3 : K < nm := (by have := HK2.out; omega); have g6 := (sl_sizes HS2.out HN2.out).1; have g7 := (sl_sizes HS2.out HN2.out).2; have g8 : K ≤ cm := (by omega); clear hsl hno hb r0 r1)
        | (go_at_call 25; refine (vnames_any _ HS3.out (sl_take (k := K) HS2.out (by have := HK2.out; omega)) HN1.out (by rw [List.length_take]; have := HK2.out; omega)).mono ?_; rintro e w6 ⟨rfl, d, rfl⟩; rw [decide_eq_true (rfl : L.take K = L.take K)]; replace HBX := Lib.hid (bx_step HBX.out (drewN_under _ d)))
        | (go_at_call 7; refine (HLV.out _ HBX.out.b_bel).mono ?_; rintro e w7 ⟨rfl, hb⟩; replace HBX := Lib.hid (bx_step HBX.out hb); clear hb))
      go_ret
      exact ⟨rfl, HBX.out.b_bel⟩
    · have HCUT : Hid (kinCut L most = L) := Lib.hid (by
        unfold kinCut
        split
        · rename_i hq
          rw [List.take_of_length_le (by omega)]
        · rfl)
      rw [HCUT.out] at HKN
      have HNC := Lib.hid hc
      by_cases h1 : 1 ≤ most
      · have g1 : decide (most ≥ 1) = true := decide_eq_true h1
        have g2 : decide (1 ≤ most) = true := decide_eq_true h1
        have HM1 := Lib.hid h1
        clear hc h1
        go_enter Try.func4, Try.ntmps4
        go_wp2_with (first
          | (go_at_call 6; refine (HSM.out _ HBX.out.b_bel).mono ?_; rintro e w1 ⟨rfl, hb⟩; replace HBX := Lib.hid (bx_step HBX.out hb); replace r0 := obj_cell HBX.out.b_blk 0; replace r1 := obj_cell HBX.out.b_blk 1; clear hb)
          | (go_at_call 23; refine (HKN.out _ HBX.out.b_bel).mono ?_; rintro e w2 ⟨Al, no, c, rfl, hno, hsl, hb⟩; have HS1 := Lib.hid hsl; have HN1 := Lib.hid hno; replace HBX := Lib.hid (bx_step HBX.out hb); replace r0 := obj_cell HBX.out.b_blk 0; replace r1 := obj_cell HBX.out.b_blk 1; clear hsl hno hb)
          | (go_at_call 24; refine (HRK.out _ HBX.out.b_bel).mono ?_; rintro e w3 ⟨Am, nm, cm, rfl, hno, hsl, hb⟩; have HS2 := Lib.hid hsl; have HN2 := Lib.hid hno; have HS3 := Lib.hid (sl_bel HS1.out hb); replace HBX := Lib.hid (bx_step HBX.out hb); have g3 : decide (most < (nm : Int)) = false := decide_eq_false (fun e => HNC.out ⟨HM1.out, by have := HN2.out; omega⟩); clear hsl hno hb r0 r1)
          | (go_at_call 25; refine (vnames_any _ HS3.out HS2.out HN1.out HN2.out).mono ?_; rintro e w6 ⟨rfl, d, rfl⟩; rw [decide_eq_true (rfl : L = L)]; replace HBX := Lib.hid (bx_step HBX.out (drewN_under _ d)))
          | (go_at_call 7; refine (HLV.out _ HBX.out.b_bel).mono ?_; rintro e w7 ⟨rfl, hb⟩; replace HBX := Lib.hid (bx_step HBX.out hb); clear hb))
        go_ret
        exact ⟨rfl, HBX.out.b_bel⟩
      · have g1 : decide (most ≥ 1) = false := decide_eq_false h1
        have g2 : decide (1 ≤ most) = false := decide_eq_false h1
        clear hc h1
        go_enter Try.func4, Try.ntmps4
        go_wp2_with (first
          | (go_at_call 6; refine (HSM.out _ HBX.out.b_bel).mono ?_; rintro e w1 ⟨rfl, hb⟩; replace HBX := Lib.hid (bx_step HBX.out hb); replace r0 := obj_cell HBX.out.b_blk 0; replace r1 := obj_cell HBX.out.b_blk 1; clear hb)
          | (go_at_call 23; refine (HKN.out _ HBX.out.b_bel).mono ?_; rintro e w2 ⟨Al, no, c, rfl, hno, hsl, hb⟩; have HS1 := Lib.hid hsl; have HN1 := Lib.hid hno; replace HBX := Lib.hid (bx_step HBX.out hb); replace r0 := obj_cell HBX.out.b_blk 0; replace r1 := obj_cell HBX.out.b_blk 1; clear hsl hno hb)
          | (go_at_call 24; refine (HRK.out _ HBX.out.b_bel).mono ?_; rintro e w3 ⟨Am, nm, cm, rfl, hno, hsl, hb⟩; have HS2 := Lib.hid hsl; have HN2 := Lib.hid hno; have HS3 := Lib.hid (sl_bel HS1.out hb); replace HBX := Lib.hid (bx_step HBX.out hb); clear hsl hno hb r0 r1)
          | (go_at_call 25; refine (vnames_any _ HS3.out HS2.out HN1.out HN2.out).mono ?_; rintro e w6 ⟨rfl, d, rfl⟩; rw [decide_eq_true (rfl : L = L)]; replace HBX := Lib.hid (bx_step HBX.out (drewN_under _ d)))
          | (go_at_call 7; refine (HLV.out _ HBX.out.b_bel).mono ?_; rintro e w7 ⟨rfl, hb⟩; replace HBX := Lib.hid (bx_step HBX.out hb); clear hb))
        go_ret
        exact ⟨rfl, HBX.out.b_bel⟩
theorem findkin_came {E : World → Prop} (ok : FindOk E) (okk : FindKinOk E) (w : World) (env : E w) {A A2 : Option Addr} {n cap n2 cap2 : Nat} {s : Sc} (h : ScAt (fun _ g => g < w.heap.size) w A n cap A2 n2 cap2 s) (hok : ScOk s) (most : Int) (hm : Int64 most) :
    Calls Try.prog 4 #[.agg #[.slice A n cap, .slice A2 n2 cap2], .int .i64 most] w fun e w' => e = .returned (.bool true) ∧ Below w.heap.size w w' := findkin_walk ok okk w env h (fun _ _ hg => hg) hok most hm
end Go.Proofs.Ytmajhjkibmbikaa

/- The law FindCloses. Conditions: those that each theorem names. -/
namespace Go.Proofs.Ytmajhjkibmbikaa
open Go.RowKit
set_option linter.unusedVariables false
set_option maxRecDepth 100000

theorem nodup_ne {l : List (List UInt8)} (h : l.Nodup) {i k : Nat} {a b : List UInt8} (hk : k < i) (ha : l[k]? = some a) (hb : l[i]? = some b) : ¬ a = b := by
  obtain ⟨h1, e1⟩ := List.getElem?_eq_some_iff.mp ha
  obtain ⟨h2, e2⟩ := List.getElem?_eq_some_iff.mp hb
  rw [← e1, ← e2]
  exact List.pairwise_iff_getElem.mp h k i h1 h2 hk
set_option maxHeartbeats 16000000 in
theorem findcloses_walk {E : World → Prop} (ok : FindOk E) (okk : FindKinOk E) (w : World) (env : E w) {S : Nat → Nat → Prop} {A A2 : Option Addr} {n cap n2 cap2 : Nat} {s : Sc} (h : ScAt S w A n cap A2 n2 cap2 s) (hS : ∀ k g, S k g → g < w.heap.size) (hok : ScOk s) :
    Calls Try.prog 5 #[.agg #[.slice A n cap, .slice A2 n2 cap2]] w fun e w' => e = .returned (.bool true) ∧ Below w.heap.size w w' := by
  obtain ⟨m1, m2, m3, m4⟩ := scAt_max h
  have HLV := Lib.hid (fun u (hb : Below w.heap.size w u) => ok.flive u (ok.feride _ _ env hb))
  have HSM := Lib.hid (fun u (hb : Below w.heap.size w u) => rvsmall_any u (scAt_bel h hb) hok)
  have HBX := Lib.hid (bx_start w #[.slice A n cap, .slice A2 n2 cap2] 25)
  have r0 := obj_cell HBX.out.b_blk 0
  have r1 := obj_cell HBX.out.b_blk 1
  cases hs : smallT s with
  | false =>
    rw [hs] at HSM
    clear ok okk env h hok hs hS
    go_enter Try.func5, Try.ntmps5
    go_wp2_with (first
      | (go_at_call 6; refine (HSM.out _ HBX.out.b_bel).mono ?_; rintro e w1 ⟨rfl, hb⟩; replace HBX := Lib.hid (bx_step HBX.out hb); clear hb)
      | (go_at_call 7; refine (HLV.out _ HBX.out.b_bel).mono ?_; rintro e w4 ⟨rfl, hb⟩; replace HBX := Lib.hid (bx_step HBX.out hb); clear hb))
    go_ret
    exact ⟨rfl, HBX.out.b_bel⟩
  | true =>
    have HCK := Lib.hid (fun u (hb : Below w.heap.size w u) => rvcheck_any u (scAt_bel h hb))
    rw [hs] at HSM
    by_cases hc : checkT s = 0
    case neg =>
      obtain ⟨C, hC⟩ : ∃ C, C = checkT s := ⟨_, rfl⟩
      rw [← hC] at HCK hc
      have e1 : (C == 0) = false := beq_false_of_ne hc
      have e2 : (C != 0) = true := by rw [bne, e1]; rfl
      clear ok okk env h hok hs hC hS
      go_enter Try.func5, Try.ntmps5
      go_wp2_with (first
        | (go_at_call 6; refine (HSM.out _ HBX.out.b_bel).mono ?_; rintro e w1 ⟨rfl, hb⟩; replace HBX := Lib.hid (bx_step HBX.out hb); replace r0 := obj_cell HBX.out.b_blk 0; replace r1 := obj_cell HBX.out.b_blk 1; clear hb)
        | (go_at_call 26; refine (HCK.out _ HBX.out.b_bel).mono ?_; rintro e w2 ⟨rfl, hb⟩; replace HBX := Lib.hid (bx_step HBX.out hb); clear hb)
        | (go_at_call 7; refine (HLV.out _ HBX.out.b_bel).mono ?_; rintro e w4 ⟨rfl, hb⟩; replace HBX := Lib.hid (bx_step HBX.out hb); clear hb))
      go_ret
      exact ⟨rfl, HBX.out.b_bel⟩
    case pos =>
      have hsz := small_sizes hs
      have hparts := check_parts hc
      have hn2 : 0 < n2 := by
        have := hparts.2.1
        unfold noneT at this
        rw [Bool.or_eq_false_iff, decide_eq_false_iff_not] at this
        rw [h.s_nm]
        omega
      have HKN := Lib.hid (fun u (hb : Below w.heap.size w u) => lawkin_any ok.feride okk u (ok.feride _ _ env hb) (scAt_bel h hb) (fun k g hk => Nat.lt_of_lt_of_le (hS k g hk) hb.size) hok hs (-1) (by unfold Int64; omega))
      have HME := Lib.hid (fun t u (hb : Below w.heap.size w u) => rvmessage_any u (scAt_bel h hb) t)
      have hcut : kinCut (kinT s) (-1) = kinT s := by unfold kinCut; rw [if_neg (by omega)]
      rw [hcut] at HKN
      rw [hc] at HCK
      obtain ⟨x, hx⟩ : ∃ x, s.msgs[0]? = some x := ⟨_, List.getElem?_eq_getElem (by rw [← h.s_nm]; exact hn2)⟩
      obtain ⟨hpre, hkok, -⟩ := kinT_all hx
      have hl0 : (kinT s)[0]? = some x.name := pre_get hpre rfl
      have hlen := kinOk_le hkok
      have HCL : Hid (∀ t ∈ kinT s, ∀ f ∈ (msgOf s t).fields, f.ty = 15 → f.ref ∈ kinT s) := Lib.hid (fun t ht f hf h15 => kin_closed hc ht hf h15)
      have HKO := Lib.hid hkok
      obtain ⟨L, hL⟩ : ∃ L, L = kinT s := ⟨_, rfl⟩
      rw [← hL] at HKN HCL HKO hl0 hlen
      have HL0 := Lib.hid hl0
      have HLE : Hid (L.length ≤ n2) := Lib.hid (by rw [h.s_nm]; exact hlen)
      have HX := Lib.hid hx
      have H := Lib.hid h
      obtain ⟨gx, ox, A5, cap5, A6, cap6, rfl, -, hcx, -, -⟩ := ms_at h.s_m hx
      obtain ⟨sx, hsx⟩ : ∃ sx, sx = strOf x.name := ⟨_, rfl⟩
      rw [← hsx] at hcx
      have HCX := Lib.hid hcx
      have HSX := Lib.hid hsx
      clear ok okk env h hok hs hS hc hsz hparts hcut hx hpre hkok hl0 hlen hL hcx hsx
      go_enter Try.func5, Try.ntmps5
      go_wp2_with (first
        | (go_at_call 6; refine (HSM.out _ HBX.out.b_bel).mono ?_; rintro e w1 ⟨rfl, hb⟩; replace HBX := Lib.hid (bx_step HBX.out hb); replace r0 := obj_cell HBX.out.b_blk 0; replace r1 := obj_cell HBX.out.b_blk 1; clear hb)
        | (go_at_call 26; refine (HCK.out _ HBX.out.b_bel).mono ?_; rintro e w2 ⟨rfl, hb⟩; replace HBX := Lib.hid (bx_step HBX.out hb); replace r0 := obj_cell HBX.out.b_blk 0; replace r1 := obj_cell HBX.out.b_blk 1; clear hb)
        | (go_at_call 23; refine (HKN.out _ HBX.out.b_bel).mono ?_; rintro e w3 ⟨Al, no, c, rfl, hno, hsl, hb⟩; have HSL := Lib.hid hsl; have HNO := Lib.hid hno; replace HBX := Lib.hid (bx_step HBX.out hb); replace r0 := obj_cell HBX.out.b_blk 0; replace r1 := obj_cell HBX.out.b_blk 1; clear hsl hno hb))
      have HNN : Hid (0 < no ∧ no ≤ n2) := Lib.hid ⟨by rw [HNO.out]; exact (List.getElem?_eq_some_iff.mp HL0.out).1, by rw [HNO.out]; exact HLE.out⟩
      have q1 : ((no : Int) == 0) = false := beq_false_of_ne (by have := HNN.out; omega)
      have q2 : ¬ (no : Int) = 0 := by have := HNN.out; omega
      have q3 : decide ((no : Int) > (n2 : Int)) = false := decide_eq_false (by have := HNN.out; omega)
      have q4 : decide ((n2 : Int) < (no : Int)) = false := decide_eq_false (by have := HNN.out; omega)
      have q5 : decide (n2 < no) = false := decide_eq_false (by have := HNN.out; omega)
      have q6 : ¬ n2 < no := by have := HNN.out; omega
      have q7 : 0 < no := HNN.out.1
      have q8 : (0 : Int) < (no : Int) := by have := HNN.out; omega
      have q9 : (0 : Int) < (n2 : Int) := by omega
      obtain ⟨gl, ol, rfl, hcl⟩ := sl_text HSL.out HL0.out
      obtain ⟨c0, -, -⟩ := HCX.out _ HBX.out.b_bel
      have l0 := hcl _ (Below.refl _ _)
      rw [← HSX.out, Nat.add_zero] at l0
      rw [Nat.zero_mul, Nat.add_zero] at c0
      obtain ⟨g6, g7⟩ := sl_sizes HSL.out HNO.out
      clear hcl
      go_quiet (fail)
      have hb3 := drewN_under w3 nq
      obtain ⟨wa, hwa⟩ : ∃ wa, wa = w3.drewN nq := ⟨_, rfl⟩
      rw [← hwa] at hb3 ⊢
      have HBA := Lib.hid (bx_step HBX.out hb3)
      have HSA := Lib.hid (sl_bel HSL.out hb3)
      clear hb3 hwa c0 l0 r0 r1 q1 q2 q3 q4 q5 q6 q7 q8 q9 HBX HSL
      go_wp2
      go_loopg [5] no (fun gz y5 wr => ∃ i : Nat, y5 = .int .i64 (i : Int) ∧ i + gz = no ∧ Below wa.heap.size wa wr)
      case atStart => exact ⟨0, rfl, by omega, Below.refl _ _⟩
      case round =>
        obtain ⟨i, rfl, hi, hbel⟩ := hrel
        obtain ⟨wk, hwk⟩ : ∃ wk, wk = wr := ⟨_, rfl⟩
        subst hwk
        obtain ⟨g0, hg0⟩ : ∃ g0, g0 = gk := ⟨_, rfl⟩
        subst hg0
        have HBK := Lib.hid hbel
        have HBX := Lib.hid (bx_step HBA.out hbel)
        have HSK := Lib.hid (sl_bel HSA.out hbel)
        have r0 := obj_cell HBX.out.b_blk 0
        have r1 := obj_cell HBX.out.b_blk 1
        clear hbel
        by_cases hlti : i < no
        · have ti : decide ((i : Int) < (no : Int)) = true := decide_eq_true (by omega)
          obtain ⟨t, ht⟩ : ∃ t, L[i]? = some t := ⟨_, List.getElem?_eq_getElem (by have := HNO.out; omega)⟩
          have HTI := Lib.hid ht
          obtain ⟨gl', ol', eg, hcl⟩ := sl_text HSK.out ht
          injection eg with eg
          injection eg with eg1 eg2
          subst eg1 eg2
          obtain ⟨p, hp, hmt, m, hm, hmn, hmo⟩ := msg_spot (HKO.out.1 t (List.mem_of_getElem? ht))
          have HCLM : Hid (∀ f ∈ m.fields, f.ty = 15 → f.ref ∈ L) := Lib.hid (fun f hf => HCL.out t (List.mem_of_getElem? ht) f (hmo.symm ▸ hf))
          obtain ⟨ge, oe, A1, c1, A3, c3, eg, -, hc, hl, -⟩ := ms_at H.out.s_m hm
          injection eg with eg
          injection eg with eg1 eg2
          subst eg1 eg2
          obtain ⟨nf, hnf⟩ : ∃ nf, nf = m.fields.length := ⟨_, rfl⟩
          obtain ⟨nb, hnb⟩ : ∃ nb, nb = m.barred.length := ⟨_, rfl⟩
          obtain ⟨sm, hsm⟩ : ∃ sm, sm = strOf m.name := ⟨_, rfl⟩
          obtain ⟨st, hst⟩ : ∃ st, st = strOf t := ⟨_, rfl⟩
          have HST := Lib.hid hst
          rw [← hnf, ← hnb, ← hsm] at hc
          rw [← hst] at hcl
          have HC := Lib.hid hc
          have l1 := hl.l_le
          have l2 := hl.l_max
          unfold maxLen at l2
          rw [← hnf] at l1
          have HL := Lib.hid hl
          have HNF := Lib.hid hnf
          have HMC := Lib.hid (HME.out t)
          rw [hmt, ← hst] at HMC
          have hpn : p < n2 := by rw [H.out.s_nm]; exact hp
          have tp : decide ((p : Int) < (n2 : Int)) = true := decide_eq_true (by omega)
          have tp2 : (p : Int) < (n2 : Int) := by omega
          have tp3 : decide ((p : Int) ≥ 0) = true := decide_eq_true (by omega)
          have tp4 : decide ((p : Int) < 0) = false := decide_eq_false (by omega)
          have ti2 : i < no := hlti
          have HW : Hid (Below w.heap.size w wk) := HBX.out.b_bel
          have HK8 : Hid (∀ w', Below wk.heap.size wk w' → w'.cell? ⟨w.heap.size, 0, none⟩ = some (.slice A n cap) ∧ w'.cell? ⟨w.heap.size, 1, none⟩ = some (.slice (some ⟨gx, ox, none⟩) n2 cap2) ∧ w'.cell? ⟨gl, ol + i, none⟩ = some (.string st)) := Lib.hid (fun w' hb => by
            have hx := bx_step HBX.out hb
            exact ⟨obj_cell hx.b_blk 0, obj_cell hx.b_blk 1, hcl _ hb⟩)
          have HFR : Hid (Below wk.heap.size wk wk.drew) := Lib.hid (drewN_under wk 1)
          have HW8 : Hid (Below w.heap.size w wk.drew) := Lib.hid HW.out.drew
          have l0 := hcl _ (Below.refl _ _)
          clear hc hl hnf hnb hsm hst hcl hm hmn hmo hmt hp ht
          go_wp2
          go_region_held3 (fun w' => w'.cell? ⟨w.heap.size, 0, none⟩ = some (.slice A n cap) ∧ w'.cell? ⟨w.heap.size, 1, none⟩ = some (.slice (some ⟨gx, ox, none⟩) n2 cap2) ∧ w'.cell? ⟨gl, ol + i, none⟩ = some (.string st))
            (exact HK8.out _ HFR.out)
            (first | (go_at_call 9; refine (HMC.out _ (by with_reducible exact HW8.out)).mono ?_; rintro e w5 ⟨rfl, hb⟩; replace HFR := Lib.hid (HFR.out.trans (hb.mono HFR.out.size)); clear hb))
          have HB5 := Lib.hid (HBK.out.trans (HFR.out.mono HBK.out.size))
          have HS5 := Lib.hid (sl_bel HSA.out HB5.out)
          clear HFR HW8 HK8 HMC r0 r1 l0 HSK HBX HBK
          go_wp2
          go_loopg [7] i (fun gz y7 wq => ∃ k : Nat, y7 = .int .i64 (k : Int) ∧ k + gz = i ∧ ∃ d, wq = w5.drewN d)
          case atStart => exact ⟨0, rfl, by omega, 0, rfl⟩
          case round =>
            obtain ⟨k, rfl, hk, d, rfl⟩ := hrel
            obtain ⟨g1, hg1⟩ : ∃ g1, g1 = gk := ⟨_, rfl⟩
            subst hg1
            by_cases hltk : k < i
            · have tk : decide ((k : Int) < (i : Int)) = true := decide_eq_true (by omega)
              obtain ⟨u, hu⟩ : ∃ u, L[k]? = some u := ⟨_, List.getElem?_eq_getElem (by have := HNO.out; omega)⟩
              obtain ⟨gl', ol', eg, hcu⟩ := sl_text HS5.out hu
              injection eg with eg
              injection eg with eg1 eg2
              subst eg1 eg2
              obtain ⟨gl', ol', eg, hct⟩ := sl_text HS5.out HTI.out
              injection eg with eg
              injection eg with eg1 eg2
              subst eg1 eg2
              have cu := hcu _ (Below.refl _ _)
              have ct := hct _ (Below.refl _ _)
              rw [← HST.out] at ct
              obtain ⟨su, hsu⟩ : ∃ su, su = strOf u := ⟨_, rfl⟩
              rw [← hsu] at cu
              have e1 : (su.toList == st.toList) = false := by rw [hsu, HST.out, strOf_beq]; exact decide_eq_false (nodup_ne HKO.out.2 hltk hu HTI.out)
              have e2 : ¬ su.toList = st.toList := fun e => by rw [e] at e1; simp at e1
              have tk2 : k < no := by omega
              have tk3 : decide ((k : Int) < (no : Int)) = true := decide_eq_true (by omega)
              clear hu hcu hct hsu
              go_wp2
              go_quiet (fail)
              go_wp2
              go_roundg (g1 - 1)
              case measure => omega
              case rel => exact ⟨k + 1, by go_num, by omega, _, rfl⟩
            · have tk : decide ((k : Int) < (i : Int)) = false := decide_eq_false (by omega)
              have hb5 := drewN_under w5 d
              obtain ⟨wb, hwb⟩ : ∃ wb, wb = w5.drewN d := ⟨_, rfl⟩
              rw [← hwb] at hb5 ⊢
              have HBB := Lib.hid (HB5.out.trans (hb5.mono HB5.out.size))
              clear hb5 hwb
              go_wp2
              clear tk
              go_loopg [8] nf (fun gz y8 wq => ∃ k : Nat, y8 = .int .i64 (k : Int) ∧ k + gz = nf ∧ Below wb.heap.size wb wq)
              case atStart => exact ⟨0, rfl, by omega, Below.refl _ _⟩
              case round =>
                obtain ⟨q, rfl, hq, hbel⟩ := hrel
                obtain ⟨wc, hwc⟩ : ∃ wc, wc = wr := ⟨_, rfl⟩
                subst hwc
                obtain ⟨g2, hg2⟩ : ∃ g2, g2 = gk := ⟨_, rfl⟩
                subst hg2
                have HBC := Lib.hid hbel
                have HAC := Lib.hid (HBB.out.trans (hbel.mono HBB.out.size))
                have HBX := Lib.hid (bx_step HBA.out HAC.out)
                have r0 := obj_cell HBX.out.b_blk 0
                have r1 := obj_cell HBX.out.b_blk 1
                obtain ⟨c0, c1, c2⟩ := HC.out _ HBX.out.b_bel
                clear hbel
                by_cases hltq : q < nf
                · have tq : decide ((q : Int) < (nf : Int)) = true := decide_eq_true (by omega)
                  obtain ⟨f, hf⟩ : ∃ f, m.fields[q]? = some f := ⟨_, List.getElem?_eq_getElem (by have := HNF.out; omega)⟩
                  have HFC := Lib.hid (HCLM.out f (List.mem_of_getElem? hf))
                  obtain ⟨gf, of, rfl, -, hcf⟩ := fd_at HL.out hf
                  obtain ⟨d0, d1, d2, d3, d4, d5, d6⟩ := hcf _ HBX.out.b_bel
                  clear hf hcf
                  obtain ⟨name, num, ty, ref, rep, loose, one⟩ := f
                  dsimp only at d0 d1 d2 d3 d4 d5 d6 HFC
                  obtain ⟨sn1, hsn1⟩ : ∃ z, z = strOf name := ⟨_, rfl⟩
                  obtain ⟨sr1, hsr1⟩ : ∃ z, z = strOf ref := ⟨_, rfl⟩
                  obtain ⟨so1, hso1⟩ : ∃ z, z = strOf one := ⟨_, rfl⟩
                  have HSR := Lib.hid hsr1
                  rw [← hsn1] at d0
                  rw [← hsr1] at d3
                  rw [← hso1] at d6
                  clear hsn1 hsr1 hso1
                  have hbd : Below wc.heap.size wc (wc.alloc (.cells #[.string sn1, .int .i64 num, .int .i64 ty, .string sr1, .bool rep, .bool loose, .string so1] 47)) := (Below.refl _ wc).alloc (Nat.le_refl _) _
                  have hfx : (wc.alloc (.cells #[.string sn1, .int .i64 num, .int .i64 ty, .string sr1, .bool rep, .bool loose, .string so1] 47)).heap[wc.heap.size]? = some (.cells #[.string sn1, .int .i64 num, .int .i64 ty, .string sr1, .bool rep, .bool loose, .string so1] 47 (0, 0)) := heap_alloc_new wc _
                  have HBD := Lib.hid hbd
                  have HFX := Lib.hid hfx
                  obtain ⟨b0, hb0⟩ : ∃ b0, b0 = (!decide (ty = 15)) := ⟨_, rfl⟩
                  have HB0 := Lib.hid hb0
                  have HSD := Lib.hid (sl_bel HSA.out (HAC.out.trans (hbd.mono HAC.out.size)))
                  have f2 := obj_cell hfx 2
                  have f3 := obj_cell hfx 3
                  have hneq : (ty == 15) = !b0 := by rw [hb0, Bool.not_not]; rfl
                  have hneq2 : (ty != 15) = b0 := by rw [bne, hneq, Bool.not_not]
                  clear hb0 hbd hfx
                  have HTRUE : Hid ((b0 || L.any (fun u => decide (u = ref))) = true) := Lib.hid (by
                    have e := HB0.out
                    by_cases h15 : ty = 15
                    · rw [Bool.or_eq_true]
                      right
                      rw [List.any_eq_true]
                      exact ⟨ref, HFC.out h15, decide_eq_true rfl⟩
                    · rw [e, decide_eq_false h15]; rfl)
                  go_wp2
                  obtain ⟨wd, hwd⟩ : ∃ wd, wd = wc.alloc (.cells #[.string sn1, .int .i64 num, .int .i64 ty, .string sr1, .bool rep, .bool loose, .string so1] 47) := ⟨_, rfl⟩
                  rw [← hwd] at HBD HFX HSD f2 f3 ⊢
                  have HBE := Lib.hid (HBC.out.trans (HBD.out.mono HBC.out.size))
                  clear hwd d0 d1 d2 d3 d4 d5 d6 c0 c1 c2 r0 r1 hneq hneq2
                  go_loopg [10, 11] no (fun gz y10 y11 wq => ∃ j : Nat, y11 = .int .i64 (j : Int) ∧ j + gz = no ∧ y10 = .bool (b0 || (L.take j).any (fun u => decide (u = ref))) ∧ ∃ d, wq = wd.drewN d)
                  case atStart => exact ⟨0, rfl, by omega, by simp, 0, rfl⟩
                  case round =>
                    obtain ⟨j, rfl, hj, rfl, d, rfl⟩ := hrel
                    obtain ⟨g3, hg3⟩ : ∃ g3, g3 = gk := ⟨_, rfl⟩
                    subst hg3
                    by_cases hltj : j < no
                    · have tj : decide ((j : Int) < (no : Int)) = true := decide_eq_true (by omega)
                      obtain ⟨u, hu⟩ : ∃ u, L[j]? = some u := ⟨_, List.getElem?_eq_getElem (by have := HNO.out; omega)⟩
                      have HSN := Lib.hid (any_snoc L (fun u => decide (u = ref)) j u hu)
                      obtain ⟨gl', ol', eg, hcu⟩ := sl_text HSD.out hu
                      injection eg with eg
                      injection eg with eg1 eg2
                      subst eg1 eg2
                      have cu := hcu _ (Below.refl _ _)
                      obtain ⟨su, hsu⟩ : ∃ su, su = strOf u := ⟨_, rfl⟩
                      rw [← hsu] at cu
                      have hq : (su.toList == sr1.toList) = decide (u = ref) := by rw [hsu, HSR.out, strOf_beq]
                      obtain ⟨b, hb⟩ : ∃ b, b = (b0 || (L.take j).any (fun u => decide (u = ref))) := ⟨_, rfl⟩
                      have HBB2 := Lib.hid hb
                      rw [← hb]
                      clear hb hsu hcu hu
                      cases b with
                      | true =>
                        clear hq
                        go_wp2
                        go_quiet (fail)
                        go_wp2
                        go_roundg (g3 - 1)
                        case measure => omega
                        case rel => exact ⟨j + 1, by go_num, by omega, by rw [HSN.out, ← Bool.or_assoc, ← HBB2.out]; rfl, _, rfl⟩
                      | false =>
                        by_cases hur : u = ref
                        · have q1 : (su.toList == sr1.toList) = true := by rw [hq]; exact decide_eq_true hur
                          have q2 : su.toList = sr1.toList := eq_of_beq q1
                          have HUR := Lib.hid hur
                          clear hq hur
                          go_wp2
                          go_quiet (fail)
                          go_wp2
                          go_roundg (g3 - 1)
                          case measure => omega
                          case rel => exact ⟨j + 1, by go_num, by omega, by rw [HSN.out, ← Bool.or_assoc, ← HBB2.out, decide_eq_true HUR.out]; rfl, _, rfl⟩
                        · have q1 : (su.toList == sr1.toList) = false := by rw [hq]; exact decide_eq_false hur
                          have q2 : ¬ su.toList = sr1.toList := fun e => by rw [e] at q1; simp at q1
                          have HUR := Lib.hid hur
                          clear hq hur
                          go_wp2
                          go_quiet (fail)
                          go_wp2
                          go_roundg (g3 - 1)
                          case measure => omega
                          case rel => exact ⟨j + 1, by go_num, by omega, by rw [HSN.out, ← Bool.or_assoc, ← HBB2.out, decide_eq_false HUR.out]; rfl, _, rfl⟩
                    · have tj : decide ((j : Int) < (no : Int)) = false := decide_eq_false (by omega)
                      rw [any_whole L (fun u => decide (u = ref)) j (by have := HNO.out; omega), HTRUE.out]
                      go_wp2
                      go_roundg (g2 - 1)
                      case measure => omega
                      case rel => exact ⟨q + 1, by go_num, by omega, HBE.out.trans ((drewN_under wd d).mono HBE.out.size)⟩
                · have tq : decide ((q : Int) < (nf : Int)) = false := decide_eq_false (by omega)
                  go_wp2
                  go_roundg (g0 - 1)
                  case measure => omega
                  case rel => exact ⟨i + 1, by go_num, by omega, HAC.out⟩
        · have ti : decide ((i : Int) < (no : Int)) = false := decide_eq_false (by omega)
          go_wp2_with (first
            | (go_at_call 7; refine (HLV.out _ HBX.out.b_bel).mono ?_; rintro e w7 ⟨rfl, hb⟩; replace HBX := Lib.hid (bx_step HBX.out hb); clear hb))
          go_ret
          exact ⟨rfl, HBX.out.b_bel⟩
theorem findcloses_came {E : World → Prop} (ok : FindOk E) (okk : FindKinOk E) (w : World) (env : E w) {A A2 : Option Addr} {n cap n2 cap2 : Nat} {s : Sc} (h : ScAt (fun _ g => g < w.heap.size) w A n cap A2 n2 cap2 s) (hok : ScOk s) :
    Calls Try.prog 5 #[.agg #[.slice A n cap, .slice A2 n2 cap2]] w fun e w' => e = .returned (.bool true) ∧ Below w.heap.size w w' := findcloses_walk ok okk w env h (fun _ _ hg => hg) hok
end Go.Proofs.Ytmajhjkibmbikaa
