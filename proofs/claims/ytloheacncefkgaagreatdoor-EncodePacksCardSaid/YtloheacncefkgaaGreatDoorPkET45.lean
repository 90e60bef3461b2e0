/- Several texts in one: EncLaw, EncPk, EncPt, EncAp, EncRs. What each proves, and its conditions, stands at its own head. -/
import Derived.Test.YtloheacncefkgaaGreatDoorPkET42
import Derived.Test.YtloheacncefkgaaGreatDoorPkET44
import Derived.Test.YtloheacncefkgaaGreatDoorPkET0
import Derived.Test.YtloheacncefkgaaGreatDoorPkET25
import Derived.Test.YtloheacncefkgaaGreatDoorPkET21
import Derived.Test.YtloheacncefkgaaGreatDoorPkET31
import Derived.Deep.RegionHeld3
import Derived.Test.YtloheacncefkgaaGreatDoorPkET39
import Derived.BigFrame
/- Layer 21: what the program's calls give (EncOk), the page's example ('live'), all values packed. Conditions: EncOk's, and those that each theorem names. -/
namespace Go.Proofs.YtloheacncefkgaaGreatDoor
open Go.RowKit
set_option linter.unusedVariables false
set_option maxRecDepth 100000

/-- The program's answers for layer 21, in a world that meets E. -/
structure EncOk (E : World → Prop) : Prop where
  erolls : ∀ {w w' : World}, E w → Below w.heap.size w w' → E w'
  eenv : ∀ {w : World}, E w → U8Env w
  eput : ∀ {s : Sc} {n : Nat} {SS : Nat → Nat → Prop} {S : Nat → Prop} (w : World) {A A2 : Option Addr} {ne ca nm ca2 : Nat} (name : List UInt8) {B B2 : Option Addr} {na cb nr cr : Nat} {x : Tr}, E w → ScOk s → checkT s = 0 → ScAt SS w A ne ca A2 nm ca2 s → TrAt S n w B na cb B2 nr cr x → FitN (n + 1) x → OkN (n + 1) x → deepN (n + 1) x ≤ 900 → costN (n + 1) x ≤ 1000000000 →
    Calls Tryz.prog 11 #[.agg #[.slice A ne ca, .slice A2 nm ca2], .string (strOf name), .agg #[.slice B na cb, .slice B2 nr cr]] w (EnPut w (putB s (n + 1) name x) (putC s (n + 1) name x))
  epack : ∀ (w : World) (f : Fd) {A : Option Addr} {cap n : Nat} {l : List Nat}, E w → Sl w A cap (u64s l) → n = l.length → l.length ≤ 1000 → (∀ x ∈ l, x < 18446744073709551616) →
    Calls Tryz.prog 15 #[fdV f, .slice A n cap] w fun e w' => e = .returned (.string (strOf (packB f l))) ∧ Below w.heap.size w w'
theorem el_check : checkT vlS = 0 := by decide +kernel
theorem el_code : putC vlS 1 [77] (vlT 300) = 0 := by decide +kernel
theorem el_bytes : putB vlS 1 [77] (vlT 300) = [8, 172, 2] := by decide +kernel
theorem el_deep : deepN 1 (vlT 300) ≤ 900 := by decide +kernel
theorem el_cost : costN 1 (vlT 300) ≤ 1000000000 := by decide +kernel
theorem ennum_any (k : Int) (w : World) : Calls Tryz.prog 14 #[.int .i64 k] w fun e w' => e = .returned (.int .i64 k) ∧ w = w' := by
  go_enter Tryz.func14, Tryz.ntmps14
  go_wp2
  go_ret
  exact ⟨rfl, rfl⟩
set_option maxHeartbeats 8000000 in
theorem enlive_any {E : World → Prop} (ok : EncOk E) (w : World) (env : E w) : Calls Tryz.prog 10 #[] w fun e w' => e = .returned (.bool true) ∧ Below w.heap.size w w' := by
  obtain ⟨W, hW⟩ : ∃ W, W = allocs w [.cells #[.string ⟨#[97]⟩, .int .i64 1, .int .i64 1, .string ⟨#[]⟩, .bool false, .bool false, .string ⟨#[]⟩] 44, .cells #[.string ⟨#[77]⟩, .slice (some ⟨w.heap.size, 0, none⟩) 1 1, .slice none 0 0] 57, .cells #[.slice none 0 0, .slice (some ⟨w.heap.size + 1, 0, none⟩) 1 1] 25, .cells #[.int .u64 300, .string ⟨#[]⟩, .slice none 0 0] 64, .cells #[.int .i64 1, .slice (some ⟨w.heap.size + 1 + 1 + 1, 0, none⟩) 1 1] 67] := ⟨_, rfl⟩
  have hb := allocs_bel [.cells #[.string ⟨#[97]⟩, .int .i64 1, .int .i64 1, .string ⟨#[]⟩, .bool false, .bool false, .string ⟨#[]⟩] 44, .cells #[.string ⟨#[77]⟩, .slice (some ⟨w.heap.size, 0, none⟩) 1 1, .slice none 0 0] 57, .cells #[.slice none 0 0, .slice (some ⟨w.heap.size + 1, 0, none⟩) 1 1] 25, .cells #[.int .u64 300, .string ⟨#[]⟩, .slice none 0 0] 64, .cells #[.int .i64 1, .slice (some ⟨w.heap.size + 1 + 1 + 1, 0, none⟩) 1 1] 67] w
  have hat := fun i cs t h => allocs_at [.cells #[.string ⟨#[97]⟩, .int .i64 1, .int .i64 1, .string ⟨#[]⟩, .bool false, .bool false, .string ⟨#[]⟩] 44, .cells #[.string ⟨#[77]⟩, .slice (some ⟨w.heap.size, 0, none⟩) 1 1, .slice none 0 0] 57, .cells #[.slice none 0 0, .slice (some ⟨w.heap.size + 1, 0, none⟩) 1 1] 25, .cells #[.int .u64 300, .string ⟨#[]⟩, .slice none 0 0] 64, .cells #[.int .i64 1, .slice (some ⟨w.heap.size + 1 + 1 + 1, 0, none⟩) 1 1] 67] w i cs t h
  rw [← hW] at hb hat
  have h0 := hat 0 _ _ rfl
  rw [Nat.add_zero] at h0
  have h1 := hat 1 _ _ rfl
  have h2 := hat 2 _ _ rfl
  rw [show w.heap.size + 2 = w.heap.size + 1 + 1 from rfl] at h2
  have h3 := hat 3 _ _ rfl
  rw [show w.heap.size + 3 = w.heap.size + 1 + 1 + 1 from rfl] at h3
  have h4 := hat 4 _ _ rfl
  rw [show w.heap.size + 4 = w.heap.size + 1 + 1 + 1 + 1 from rfl] at h4
  have hs := vdl_at _ _ h0 h1
  have t3 := vl_tree 300 _ _ h3 h4
  have HC := Lib.hid (ok.eput W [77] (ok.erolls env hb) vl_ok el_check hs t3 (vl_fit 300) (vl_bit 300 (by decide)) el_deep el_cost)
  rw [el_code, el_bytes, show strOf [77] = ⟨#[77]⟩ from rfl] at HC
  have r20 := obj_cell h2 0
  have r21 := obj_cell h2 1
  have HBW := Lib.hid hb
  simp only [allocs] at hW
  have HW := Lib.hid hW
  rw [hW] at r20 r21
  clear hat h0 h1 h2 h3 h4 hs t3 env hb hW ok
  go_enter Tryz.func10, Tryz.ntmps10
  go_wp2_with (first
    | (go_at_call 11; (with_reducible rw [← HW.out]); refine HC.out.mono ?_; rintro e w1 ⟨A, cap, rfl, hB, hb⟩; have HB := Lib.hid hB; have HB1 := Lib.hid hb; have HL := Lib.hid (Bs.lit w1 #[.int .u8 8, .int .u8 172, .int .u8 2] 5 [8, 172, 2] rfl (by decide)); clear hB hb HC)
    | (go_at_call 14; refine (ennum_any _ _).mono ?_; rintro e wn ⟨rfl, rfl⟩)
    | (go_at_call 13; refine (bytes_n _ _ _ _ _ _ [8, 172, 2] [8, 172, 2] _ rfl rfl (HB.out.below ((Below.refl _ w1).alloc (Nat.le_refl _) _) (Nat.le_refl _)) HL.out).mono ?_; rintro e w2 ⟨rfl, rfl⟩))
  go_ret
  exact ⟨rfl, vbel HBW.out (HB1.out.alloc HB1.out.size _)⟩
end Go.Proofs.YtloheacncefkgaaGreatDoor

/- Layer 21: all values packed, the law's walk. Conditions: EncOk's. -/
namespace Go.Proofs.YtloheacncefkgaaGreatDoor
open Go.RowKit
set_option linter.unusedVariables false
set_option maxRecDepth 100000
set_option maxHeartbeats 8000000 in
theorem encodepacks_walk {E : World → Prop} (ok : EncOk E) (w : World) (env : E w) (f : Fd) {A : Option Addr} {cap n : Nat} {l : List Nat} (h : Sl w A cap (u64s l)) (hn : n = l.length) (hb : ∀ x ∈ l, x < 18446744073709551616) :
    Calls Tryz.prog 4 #[fdV f, .slice A n cap] w fun e w' => e = .returned (.bool true) ∧ Below w.heap.size w w' := by
  have q1 := h.le
  have q2 := h.max
  unfold maxLen at q2
  rw [u64s_length, ← hn] at q1
  have HLV := Lib.hid (fun u (hb : Below w.heap.size w u) => enlive_any ok u (ok.erolls env hb))
  have HBX0 := Lib.hid (fun cs => bx_start w cs 44)
  by_cases h200 : 200 < n
  · have g1 : decide ((n : Int) > 200) = true := decide_eq_true (by omega)
    have g2 : decide ((200 : Int) < (n : Int)) = true := decide_eq_true (by omega)
    clear ok env h hn hb
    unfold fdV
    go_enter Tryz.func4, Tryz.ntmps4
    go_wp2_with (go_at_call 10; refine (HLV.out _ (HBX0.out _).b_bel).mono ?_; rintro e w2 ⟨rfl, hb⟩; have HBF := Lib.hid (vbel (HBX0.out _).b_bel hb); clear hb)
    go_ret
    exact ⟨rfl, HBF.out⟩
  · have g1 : decide ((n : Int) > 200) = false := decide_eq_false (by omega)
    have g2 : decide ((200 : Int) < (n : Int)) = false := decide_eq_false (by omega)
    have HP := Lib.hid (fun u (hb' : Below w.heap.size w u) => ok.epack u f (ok.erolls env hb') (h.keep (fun q hq => hb'.cell hq)) hn (by omega) hb)
    have HR := Lib.hid (fun u (hb' : Below w.heap.size w u) => rupack_any f u (h.keep (fun q hq => hb'.cell hq)) hn (by omega) hb)
    obtain ⟨sp, hsp⟩ : ∃ sp, sp = strOf (packB f l) := ⟨_, rfl⟩
    rw [← hsp] at HP HR
    clear ok env h hn hb hsp
    obtain ⟨name, num, ty, ref, rep, loose, one⟩ := f
    unfold fdV at HP HR ⊢
    dsimp only at *
    generalize strOf name = s0 at *
    generalize strOf one = s6 at *
    generalize strOf ref = s3 at *
    have HBX := Lib.hid (HBX0.out #[.string s0, .int .i64 num, .int .i64 ty, .string s3, .bool rep, .bool loose, .string s6])
    clear HBX0
    have HK : Hid (∀ u, Bx w u (.cells #[.string s0, .int .i64 num, .int .i64 ty, .string s3, .bool rep, .bool loose, .string s6] 44 (0, 0)) → u.cell? ⟨w.heap.size, 0, none⟩ = some (.string s0) ∧ u.cell? ⟨w.heap.size, 1, none⟩ = some (.int .i64 num) ∧ u.cell? ⟨w.heap.size, 2, none⟩ = some (.int .i64 ty) ∧ u.cell? ⟨w.heap.size, 3, none⟩ = some (.string s3) ∧ u.cell? ⟨w.heap.size, 4, none⟩ = some (.bool rep) ∧ u.cell? ⟨w.heap.size, 5, none⟩ = some (.bool loose) ∧ u.cell? ⟨w.heap.size, 6, none⟩ = some (.string s6)) := Lib.hid (fun u hu => ⟨obj_cell hu.b_blk 0, obj_cell hu.b_blk 1, obj_cell hu.b_blk 2, obj_cell hu.b_blk 3, obj_cell hu.b_blk 4, obj_cell hu.b_blk 5, obj_cell hu.b_blk 6⟩)
    have HBY := HBX
    replace HBX := Lib.hid (bx_drew HBX.out 1)
    go_enter Tryz.func4, Tryz.ntmps4
    go_wp2
    go_region_held3 (fun u => u.cell? ⟨w.heap.size, 0, none⟩ = some (.string s0) ∧ u.cell? ⟨w.heap.size, 1, none⟩ = some (.int .i64 num) ∧ u.cell? ⟨w.heap.size, 2, none⟩ = some (.int .i64 ty) ∧ u.cell? ⟨w.heap.size, 3, none⟩ = some (.string s3) ∧ u.cell? ⟨w.heap.size, 4, none⟩ = some (.bool rep) ∧ u.cell? ⟨w.heap.size, 5, none⟩ = some (.bool loose) ∧ u.cell? ⟨w.heap.size, 6, none⟩ = some (.string s6))
      (first | exact HK.out _ HBX.out | exact HK.out _ HBY.out)
      (first
        | (go_at_call 15; refine (HP.out _ HBX.out.b_bel).mono ?_; rintro e w2 ⟨rfl, hb⟩; replace HBX := Lib.hid (bx_step HBX.out hb); clear hb)
        | (go_at_call 16; refine (HR.out _ HBX.out.b_bel).mono ?_; rintro e w2 ⟨rfl, hb⟩; replace HBX := Lib.hid (bx_step HBX.out hb); clear hb)
        | (go_at_call 10; refine (HLV.out _ HBX.out.b_bel).mono ?_; rintro e w2 ⟨rfl, hb⟩; replace HBX := Lib.hid (bx_step HBX.out hb); clear hb))
    all_goals
      go_wp2
      go_ret
      exact ⟨rfl, HBX.out.b_bel⟩
end Go.Proofs.YtloheacncefkgaaGreatDoor

/- Layer 21: every value's bytes, the law's walk. Conditions: EncOk's; those that each theorem names. -/
namespace Go.Proofs.YtloheacncefkgaaGreatDoor
open Go.RowKit
set_option linter.unusedVariables false
set_option maxRecDepth 100000
theorem small_cost {k : Nat} {x : Tr} (h : smallTr k x = true) : costN (k + 1) x ≤ 400 := by
  have h0 := of_decide_eq_true h
  have := cost_left (k + 1) x 400 40 h0
  omega
end Go.Proofs.YtloheacncefkgaaGreatDoor

/- Layer 21: unlike values have unlike bytes: the law's walk. Conditions: EncOk's; those that each theorem names. -/
namespace Go.Proofs.YtloheacncefkgaaGreatDoor
open Go.RowKit
set_option linter.unusedVariables false
set_option maxRecDepth 100000

theorem cells_t2 : Tryz.prog.cellsOf 48 = 4 := by kernel_rfl
theorem cells_t2e : Tryz.prog.cellsOf 29 = 2 := by kernel_rfl
/-- Two trees that came in by value. -/
theorem trees2_came {H : Type} {enc : TypeId × Value → H} {w : World} {base : Nat} {spare : Nat → Bool} {held : Bool} {fuel : Nat} {cs : List Value} {x : DataW H × List MemPlace} (h : DataW.trod enc Tryz.prog w base spare held fuel 48 cs = some x) (hz : ∀ n ∈ x.1.weights Tryz.prog 48, n ≤ mxL) :
    ∃ (t u : Tr) (n : Nat) (A : Option Addr) (na ca : Nat) (B : Option Addr) (nb cb : Nat) (C : Option Addr) (nc cc : Nat) (D : Option Addr) (nd cd : Nat), cs = [.slice A na ca, .slice B nb cb, .slice C nc cc, .slice D nd cd] ∧ TrAt (fun g => g < w.heap.size) n w A na ca B nb cb t ∧ OkT t ∧ TrAt (fun g => g < w.heap.size) n w C nc cc D nd cd u ∧ OkT u := by
  obtain ⟨ys, m, rfl, rfl, hl, hn, he⟩ := DataW.trod_array Tryz.underlying48 h
  rw [cells_t2] at hl
  rw [cells_t2e] at he
  match cs, hl, ys, hn with
  | [v0, v1, v2, v3], _, [y0, y1], _ =>
    have hw : ∀ n ∈ DataW.weightsAll Tryz.prog 29 [y0.1, y1.1], n ≤ mxL := by
      intro n hn
      apply hz
      simp only [DataW.weights, Tryz.underlying48]
      exact hn
    have g0 : DataW.trod enc Tryz.prog w base spare held m 29 [v0, v1] = some y0 := he 0 (by omega)
    have g1 : DataW.trod enc Tryz.prog w base spare held m 29 [v2, v3] = some y1 := he 1 (by omega)
    obtain ⟨t, ht, ho⟩ := tr_came m _ _ g0 (fun n hn => hw n (List.mem_append_left _ hn))
    obtain ⟨u, hu, hp⟩ := tr_came m _ _ g1 (fun n hn => hw n (List.mem_append_right _ (List.mem_append_left _ hn)))
    match m, ht, hu with
    | n + 1, ⟨A, na, ca, B, nb, cb, e, h⟩, ⟨C, nc, cc, D, nd, cd, e2, h2⟩ =>
      injection e with e0 e1
      injection e1 with e1 _
      injection e2 with e2 e3
      injection e3 with e3 _
      subst e0 e1 e2 e3
      exact ⟨t, u, n, A, na, ca, B, nb, cb, C, nc, cc, D, nd, cd, rfl, h, ho, h2, hp⟩
theorem same_yes' {f : FuncId} {args : Array Value} {w : World} {p : Prop} (h : Calls Tryz.prog f args w (SmTo w p)) (hp : p) : Calls Tryz.prog f args w fun e w' => e = .returned (.bool true) ∧ Below w.heap.size w w' :=
  h.mono fun e w' ⟨r, he, hr, hb⟩ => ⟨by rw [he, hr.2 hp], hb⟩
theorem same_no' {f : FuncId} {args : Array Value} {w : World} {p : Prop} (h : Calls Tryz.prog f args w (SmTo w p)) (hp : ¬ p) : Calls Tryz.prog f args w fun e w' => e = .returned (.bool false) ∧ Below w.heap.size w w' :=
  h.mono fun e w' ⟨r, he, hr, hb⟩ => ⟨by rw [he, show r = false by cases r; rfl; exact absurd (hr.1 rfl) hp], hb⟩
theorem put_zero {s : Sc} {k : Nat} {name : List UInt8} {x : Tr} (h : putC s k name x = 0) : treeN s k name x = true ∧ (encN s k name x).length ≤ 65536 ∧ putB s k name x = encN s k name x := by
  rcases put_ways s k name x with ⟨_, e, _⟩ | ⟨_, _, e, _⟩ | ⟨_, _, _, e, _⟩ | ⟨_, _, _, _, e, _⟩ | ⟨_, a, _, b, _, c⟩
  · rw [e] at h; cases h
  · rw [e] at h; cases h
  · rw [e] at h; cases h
  · rw [e] at h; cases h
  · exact ⟨a, by omega, c⟩
set_option maxHeartbeats 32000000 in
theorem encodeapart_walk {E : World → Prop} (ok : EncOk E) (w : World) (env : E w) {SS : Nat → Nat → Prop} {A A2 : Option Addr} {ne ca nm ca2 : Nat} {s : Sc} (h : ScAt SS w A ne ca A2 nm ca2 s) (hok : ScOk s) (t : List UInt8) (htl : t.length ≤ 140737488351232) {S : Nat → Prop} {n : Nat} {B : Option Addr} {na cb : Nat} {B2 : Option Addr} {nr cr : Nat} {x : Tr} (hx : TrAt S n w B na cb B2 nr cr x) (ho : OkT x) {D : Option Addr} {nd cd : Nat} {D2 : Option Addr} {ns cs : Nat} {y : Tr} (hy : TrAt S n w D nd cd D2 ns cs y) (hp : OkT y) :
    Calls Tryz.prog 5 #[.agg #[.slice A ne ca, .slice A2 nm ca2], .string (strOf t), .agg #[.slice B na cb, .slice B2 nr cr, .slice D nd cd, .slice D2 ns cs]] w fun e w' => e = .returned (.bool true) ∧ Below w.heap.size w w' := by
  have HLV := Lib.hid (fun u (hb : Below w.heap.size w u) => enlive_any ok u (ok.erolls env hb))
  have HSM := Lib.hid (fun u (hb : Below w.heap.size w u) => rvsmall_any u (scAt_bel h hb) hok)
  have HCH := Lib.hid (fun u (hb : Below w.heap.size w u) => rvcheck_any u (scAt_bel h hb))
  have HSX := Lib.hid (fun u (hb : Below w.heap.size w u) => rsmalltr_any u (trAt_bel hx hb) ho)
  have HSY := Lib.hid (fun u (hb : Below w.heap.size w u) => rsmalltr_any u (trAt_bel hy hb) hp)
  have HBX := Lib.hid (bx2_start w #[.slice A ne ca, .slice A2 nm ca2] #[.slice B na cb, .slice B2 nr cr, .slice D nd cd, .slice D2 ns cs] 25 48)
  have HK : Hid (∀ u, Bx2 w u (.cells #[.slice A ne ca, .slice A2 nm ca2] 25 (0, 0)) (.cells #[.slice B na cb, .slice B2 nr cr, .slice D nd cd, .slice D2 ns cs] 48 (0, 0)) → u.cell? ⟨w.heap.size, 0, none⟩ = some (.slice A ne ca) ∧ u.cell? ⟨w.heap.size, 1, none⟩ = some (.slice A2 nm ca2) ∧ u.cell? ⟨w.heap.size + 1, 0, none⟩ = some (.slice B na cb) ∧ u.cell? ⟨w.heap.size + 1, 1, none⟩ = some (.slice B2 nr cr) ∧ u.cell? ⟨w.heap.size + 1, 2, none⟩ = some (.slice D nd cd) ∧ u.cell? ⟨w.heap.size + 1, 3, none⟩ = some (.slice D2 ns cs)) := Lib.hid (fun u hu => ⟨obj_cell hu.b2_one 0, obj_cell hu.b2_one 1, obj_cell hu.b2_two 0, obj_cell hu.b2_two 1, obj_cell hu.b2_two 2, obj_cell hu.b2_two 3⟩)
  obtain ⟨r0, r1, s0, s1, s2, s3⟩ := HK.out _ HBX.out
  cases hs : smallT s with
  | false =>
    rw [hs] at HSM
    clear ok env h hok hx ho hs hy hp HSX HSY HCH
    generalize strOf t = st at *
    go_enter Tryz.func5, Tryz.ntmps5
    go_wp2_with (first
      | (go_at_call 7; refine (HSM.out _ HBX.out.b2_bel).mono ?_; rintro e w1 ⟨rfl, hb⟩; replace HBX := Lib.hid (bx2_step HBX.out hb); obtain ⟨r0, r1, s0, s1, s2, s3⟩ := HK.out _ HBX.out; clear hb)
      | (go_at_call 10; refine (HLV.out _ HBX.out.b2_bel).mono ?_; rintro e w9 ⟨rfl, hb⟩; replace HBX := Lib.hid (bx2_step HBX.out hb); obtain ⟨r0, r1, s0, s1, s2, s3⟩ := HK.out _ HBX.out; clear hb))
    go_ret
    exact ⟨rfl, HBX.out.b2_bel⟩
  | true =>
    rw [hs] at HSM
    by_cases hc : checkT s = 0
    case neg =>
      obtain ⟨c, hcc⟩ : ∃ c, c = checkT s := ⟨_, rfl⟩
      rw [← hcc] at HCH hc
      have g1 : (c != 0) = true := bne_iff_ne.2 hc
      clear ok env h hok hx ho hs hcc hy hp HSX HSY
      generalize strOf t = st at *
      go_enter Tryz.func5, Tryz.ntmps5
      go_wp2_with (first
        | (go_at_call 7; refine (HSM.out _ HBX.out.b2_bel).mono ?_; rintro e w1 ⟨rfl, hb⟩; replace HBX := Lib.hid (bx2_step HBX.out hb); obtain ⟨r0, r1, s0, s1, s2, s3⟩ := HK.out _ HBX.out; clear hb)
        | (go_at_call 8; refine (HCH.out _ HBX.out.b2_bel).mono ?_; rintro e w2 ⟨rfl, hb⟩; replace HBX := Lib.hid (bx2_step HBX.out hb); obtain ⟨r0, r1, s0, s1, s2, s3⟩ := HK.out _ HBX.out; clear hb)
        | (go_at_call 10; refine (HLV.out _ HBX.out.b2_bel).mono ?_; rintro e w9 ⟨rfl, hb⟩; replace HBX := Lib.hid (bx2_step HBX.out hb); obtain ⟨r0, r1, s0, s1, s2, s3⟩ := HK.out _ HBX.out; clear hb))
      go_ret
      exact ⟨rfl, HBX.out.b2_bel⟩
    case pos =>
      rw [hc] at HCH
      cases h1 : smallTr n x with
      | false =>
        rw [h1] at HSX
        clear ok env h hok hx ho hs hy hp h1 hc HSY
        generalize strOf t = st at *
        go_enter Tryz.func5, Tryz.ntmps5
        go_wp2_with (first
          | (go_at_call 7; refine (HSM.out _ HBX.out.b2_bel).mono ?_; rintro e w1 ⟨rfl, hb⟩; replace HBX := Lib.hid (bx2_step HBX.out hb); obtain ⟨r0, r1, s0, s1, s2, s3⟩ := HK.out _ HBX.out; clear hb)
          | (go_at_call 8; refine (HCH.out _ HBX.out.b2_bel).mono ?_; rintro e w2 ⟨rfl, hb⟩; replace HBX := Lib.hid (bx2_step HBX.out hb); obtain ⟨r0, r1, s0, s1, s2, s3⟩ := HK.out _ HBX.out; clear hb)
          | (go_at_call 9; refine (HSX.out _ HBX.out.b2_bel).mono ?_; rintro e w3 ⟨rfl, hb⟩; replace HBX := Lib.hid (bx2_step HBX.out hb); obtain ⟨r0, r1, s0, s1, s2, s3⟩ := HK.out _ HBX.out; clear hb HSX)
          | (go_at_call 10; refine (HLV.out _ HBX.out.b2_bel).mono ?_; rintro e w9 ⟨rfl, hb⟩; replace HBX := Lib.hid (bx2_step HBX.out hb); obtain ⟨r0, r1, s0, s1, s2, s3⟩ := HK.out _ HBX.out; clear hb))
        go_ret
        exact ⟨rfl, HBX.out.b2_bel⟩
      | true =>
        rw [h1] at HSX
        cases h2 : smallTr n y with
        | false =>
          rw [h2] at HSY
          clear ok env h hok hx ho hs hy hp h1 h2 hc
          generalize strOf t = st at *
          go_enter Tryz.func5, Tryz.ntmps5
          go_wp2_with (first
            | (go_at_call 7; refine (HSM.out _ HBX.out.b2_bel).mono ?_; rintro e w1 ⟨rfl, hb⟩; replace HBX := Lib.hid (bx2_step HBX.out hb); obtain ⟨r0, r1, s0, s1, s2, s3⟩ := HK.out _ HBX.out; clear hb)
            | (go_at_call 8; refine (HCH.out _ HBX.out.b2_bel).mono ?_; rintro e w2 ⟨rfl, hb⟩; replace HBX := Lib.hid (bx2_step HBX.out hb); obtain ⟨r0, r1, s0, s1, s2, s3⟩ := HK.out _ HBX.out; clear hb)
            | (go_at_call 9; refine (HSX.out _ HBX.out.b2_bel).mono ?_; rintro e w3 ⟨rfl, hb⟩; replace HBX := Lib.hid (bx2_step HBX.out hb); obtain ⟨r0, r1, s0, s1, s2, s3⟩ := HK.out _ HBX.out; clear hb HSX)
            | (go_at_call 9; refine (HSY.out _ HBX.out.b2_bel).mono ?_; rintro e w4 ⟨rfl, hb⟩; replace HBX := Lib.hid (bx2_step HBX.out hb); obtain ⟨r0, r1, s0, s1, s2, s3⟩ := HK.out _ HBX.out; clear hb HSY)
            | (go_at_call 10; refine (HLV.out _ HBX.out.b2_bel).mono ?_; rintro e w9 ⟨rfl, hb⟩; replace HBX := Lib.hid (bx2_step HBX.out hb); obtain ⟨r0, r1, s0, s1, s2, s3⟩ := HK.out _ HBX.out; clear hb))
          go_ret
          exact ⟨rfl, HBX.out.b2_bel⟩
        | true =>
          rw [h2] at HSY
          obtain ⟨hf1, hd1, _⟩ := small_fits h1
          obtain ⟨hf2, hd2, _⟩ := small_fits h2
          have hk1 := small_cost h1
          have hk2 := small_cost h2
          have HP1 := Lib.hid (fun u (hb : Below w.heap.size w u) => ok.eput u t (ok.erolls env hb) hok hc (scAt_bel h hb) (trAt_bel hx hb) hf1 (ho (n + 1)) (by omega) (by omega))
          have HP2 := Lib.hid (fun u (hb : Below w.heap.size w u) => ok.eput u t (ok.erolls env hb) hok hc (scAt_bel h hb) (trAt_bel hy hb) hf2 (hp (n + 1)) (by omega) (by omega))
          have hap : putC s (n + 1) t x = 0 → putC s (n + 1) t y = 0 → (putB s (n + 1) t x = putB s (n + 1) t y ↔ x = y) := fun z1 z2 => by
            obtain ⟨a1, a2, a3⟩ := put_zero z1
            obtain ⟨b1, b2, b3⟩ := put_zero z2
            rw [a3, b3]
            exact ⟨fun e => enc_apart hc (n + 1) t x y a1 b1 (ho _) (hp _) (by omega) e, fun e => by rw [e]⟩
          have HSA := Lib.hid (fun u (hb : Below w.heap.size w u) => rtsame_any n S S n u B na cb B2 nr cr D nd cd D2 ns cs x y (trAt_bel hx hb) (trAt_bel hy hb))
          unfold EnPut at HP1 HP2
          obtain ⟨p1, hp1⟩ : ∃ z, z = putC s (n + 1) t x := ⟨_, rfl⟩
          obtain ⟨p2, hp2⟩ : ∃ z, z = putC s (n + 1) t y := ⟨_, rfl⟩
          obtain ⟨b1, hb1⟩ : ∃ z, z = putB s (n + 1) t x := ⟨_, rfl⟩
          obtain ⟨b2, hb2⟩ : ∃ z, z = putB s (n + 1) t y := ⟨_, rfl⟩
          rw [← hp1, ← hb1] at HP1
          rw [← hp2, ← hb2] at HP2
          rw [← hp1, ← hp2, ← hb1, ← hb2] at hap
          clear ok env h hok hx ho hs hy hp h1 h2 hc hf1 hf2 hd1 hd2 hk1 hk2 hp1 hp2 hb1 hb2
          generalize strOf t = st at *
          by_cases z1 : p1 = 0
          case neg =>
            obtain ⟨c1, hc1⟩ : ∃ c1 : Int, c1 = (p1 : Int) := ⟨_, rfl⟩
            have g1 : (c1 != 0) = true := bne_iff_ne.2 (by omega)
            rw [← hc1] at HP1
            clear hap HSA hc1
            go_enter Tryz.func5, Tryz.ntmps5
            go_wp2_with (first
              | (go_at_call 7; refine (HSM.out _ HBX.out.b2_bel).mono ?_; rintro e w1 ⟨rfl, hb⟩; replace HBX := Lib.hid (bx2_step HBX.out hb); obtain ⟨r0, r1, s0, s1, s2, s3⟩ := HK.out _ HBX.out; clear hb)
              | (go_at_call 8; refine (HCH.out _ HBX.out.b2_bel).mono ?_; rintro e w2 ⟨rfl, hb⟩; replace HBX := Lib.hid (bx2_step HBX.out hb); obtain ⟨r0, r1, s0, s1, s2, s3⟩ := HK.out _ HBX.out; clear hb)
              | (go_at_call 9; refine (HSX.out _ HBX.out.b2_bel).mono ?_; rintro e w3 ⟨rfl, hb⟩; replace HBX := Lib.hid (bx2_step HBX.out hb); obtain ⟨r0, r1, s0, s1, s2, s3⟩ := HK.out _ HBX.out; clear hb HSX)
              | (go_at_call 9; refine (HSY.out _ HBX.out.b2_bel).mono ?_; rintro e w4 ⟨rfl, hb⟩; replace HBX := Lib.hid (bx2_step HBX.out hb); obtain ⟨r0, r1, s0, s1, s2, s3⟩ := HK.out _ HBX.out; clear hb HSY)
              | (go_at_call 11; refine (HP1.out _ HBX.out.b2_bel).mono ?_; rintro e w5 ⟨P1, q1, rfl, hB, hb⟩; have HB1 := Lib.hid hB; replace HBX := Lib.hid (bx2_step HBX.out hb); obtain ⟨r0, r1, s0, s1, s2, s3⟩ := HK.out _ HBX.out; clear hb hB HP1)
              | (go_at_call 11; refine (HP2.out _ HBX.out.b2_bel).mono ?_; rintro e w6 ⟨P2, q2, rfl, hB, hb⟩; have HB2 := Lib.hid hB; replace HB1 := Lib.hid (HB1.out.below hb (Nat.le_refl _)); replace HBX := Lib.hid (bx2_step HBX.out hb); obtain ⟨r0, r1, s0, s1, s2, s3⟩ := HK.out _ HBX.out; clear hb hB HP2)
              | (go_at_call 14; refine (ennum_any _ _).mono ?_; rintro e wn ⟨rfl, rfl⟩)
              | (go_at_call 10; refine (HLV.out _ HBX.out.b2_bel).mono ?_; rintro e w9 ⟨rfl, hb⟩; replace HBX := Lib.hid (bx2_step HBX.out hb); obtain ⟨r0, r1, s0, s1, s2, s3⟩ := HK.out _ HBX.out; clear hb))
            go_ret
            exact ⟨rfl, HBX.out.b2_bel⟩
          case pos =>
            by_cases z2 : p2 = 0
            case neg =>
              obtain ⟨c2, hc2⟩ : ∃ c2 : Int, c2 = (p2 : Int) := ⟨_, rfl⟩
              have g1 : (c2 != 0) = true := bne_iff_ne.2 (by omega)
              rw [← hc2] at HP2
              subst z1
              clear hap HSA hc2
              go_enter Tryz.func5, Tryz.ntmps5
              go_wp2_with (first
                | (go_at_call 7; refine (HSM.out _ HBX.out.b2_bel).mono ?_; rintro e w1 ⟨rfl, hb⟩; replace HBX := Lib.hid (bx2_step HBX.out hb); obtain ⟨r0, r1, s0, s1, s2, s3⟩ := HK.out _ HBX.out; clear hb)
                | (go_at_call 8; refine (HCH.out _ HBX.out.b2_bel).mono ?_; rintro e w2 ⟨rfl, hb⟩; replace HBX := Lib.hid (bx2_step HBX.out hb); obtain ⟨r0, r1, s0, s1, s2, s3⟩ := HK.out _ HBX.out; clear hb)
                | (go_at_call 9; refine (HSX.out _ HBX.out.b2_bel).mono ?_; rintro e w3 ⟨rfl, hb⟩; replace HBX := Lib.hid (bx2_step HBX.out hb); obtain ⟨r0, r1, s0, s1, s2, s3⟩ := HK.out _ HBX.out; clear hb HSX)
                | (go_at_call 9; refine (HSY.out _ HBX.out.b2_bel).mono ?_; rintro e w4 ⟨rfl, hb⟩; replace HBX := Lib.hid (bx2_step HBX.out hb); obtain ⟨r0, r1, s0, s1, s2, s3⟩ := HK.out _ HBX.out; clear hb HSY)
                | (go_at_call 11; refine (HP1.out _ HBX.out.b2_bel).mono ?_; rintro e w5 ⟨P1, q1, rfl, hB, hb⟩; have HB1 := Lib.hid hB; replace HBX := Lib.hid (bx2_step HBX.out hb); obtain ⟨r0, r1, s0, s1, s2, s3⟩ := HK.out _ HBX.out; clear hb hB HP1)
                | (go_at_call 11; refine (HP2.out _ HBX.out.b2_bel).mono ?_; rintro e w6 ⟨P2, q2, rfl, hB, hb⟩; have HB2 := Lib.hid hB; replace HB1 := Lib.hid (HB1.out.below hb (Nat.le_refl _)); replace HBX := Lib.hid (bx2_step HBX.out hb); obtain ⟨r0, r1, s0, s1, s2, s3⟩ := HK.out _ HBX.out; clear hb hB HP2)
                | (go_at_call 14; refine (ennum_any _ _).mono ?_; rintro e wn ⟨rfl, rfl⟩)
                | (go_at_call 10; refine (HLV.out _ HBX.out.b2_bel).mono ?_; rintro e w9 ⟨rfl, hb⟩; replace HBX := Lib.hid (bx2_step HBX.out hb); obtain ⟨r0, r1, s0, s1, s2, s3⟩ := HK.out _ HBX.out; clear hb))
              go_ret
              exact ⟨rfl, HBX.out.b2_bel⟩
            case pos =>
              have hiff := hap z1 z2
              subst z1 z2
              clear hap
              obtain ⟨bb, hb1, HSB⟩ : ∃ bb : Bool, decide (b1 = b2) = bb ∧ Hid (∀ u, Below w.heap.size w u → Calls Tryz.prog 17 #[.agg #[.slice B na cb, .slice B2 nr cr], .agg #[.slice D nd cd, .slice D2 ns cs]] u fun e w' => e = .returned (.bool bb) ∧ Below u.heap.size u w') := by
                by_cases hxy : x = y
                · exact ⟨true, decide_eq_true (hiff.2 hxy), Lib.hid (fun u hb => same_yes' (HSA.out u hb) hxy)⟩
                · exact ⟨false, decide_eq_false (fun e => hxy (hiff.1 e)), Lib.hid (fun u hb => same_no' (HSA.out u hb) hxy)⟩
              have HBB := Lib.hid hb1
              have heq : ∀ w : World, (binOp .eql 4 (.bool bb) (.bool bb)).run Tryz.prog w = .ok (.bool true) w := by cases bb <;> exact fun _ => rfl
              clear HSA hiff hb1
              go_enter Tryz.func5, Tryz.ntmps5
              go_wp2_with (first
                | (go_at_call 7; refine (HSM.out _ HBX.out.b2_bel).mono ?_; rintro e w1 ⟨rfl, hb⟩; replace HBX := Lib.hid (bx2_step HBX.out hb); obtain ⟨r0, r1, s0, s1, s2, s3⟩ := HK.out _ HBX.out; clear hb)
                | (go_at_call 8; refine (HCH.out _ HBX.out.b2_bel).mono ?_; rintro e w2 ⟨rfl, hb⟩; replace HBX := Lib.hid (bx2_step HBX.out hb); obtain ⟨r0, r1, s0, s1, s2, s3⟩ := HK.out _ HBX.out; clear hb)
                | (go_at_call 9; refine (HSX.out _ HBX.out.b2_bel).mono ?_; rintro e w3 ⟨rfl, hb⟩; replace HBX := Lib.hid (bx2_step HBX.out hb); obtain ⟨r0, r1, s0, s1, s2, s3⟩ := HK.out _ HBX.out; clear hb HSX)
                | (go_at_call 9; refine (HSY.out _ HBX.out.b2_bel).mono ?_; rintro e w4 ⟨rfl, hb⟩; replace HBX := Lib.hid (bx2_step HBX.out hb); obtain ⟨r0, r1, s0, s1, s2, s3⟩ := HK.out _ HBX.out; clear hb HSY)
                | (go_at_call 11; refine (HP1.out _ HBX.out.b2_bel).mono ?_; rintro e w5 ⟨P1, q1, rfl, hB, hb⟩; have HB1 := Lib.hid hB; replace HBX := Lib.hid (bx2_step HBX.out hb); obtain ⟨r0, r1, s0, s1, s2, s3⟩ := HK.out _ HBX.out; clear hb hB HP1)
                | (go_at_call 11; refine (HP2.out _ HBX.out.b2_bel).mono ?_; rintro e w6 ⟨P2, q2, rfl, hB, hb⟩; have HB2 := Lib.hid hB; replace HB1 := Lib.hid (HB1.out.below hb (Nat.le_refl _)); replace HBX := Lib.hid (bx2_step HBX.out hb); obtain ⟨r0, r1, s0, s1, s2, s3⟩ := HK.out _ HBX.out; clear hb hB HP2)
                | (go_at_call 14; refine (ennum_any _ _).mono ?_; rintro e wn ⟨rfl, rfl⟩))
              have HBY := HBX
              replace HBX := Lib.hid (bx2_step HBX.out (drewN_under _ 1))
              have HB10 := HB1
              have HB20 := HB2
              replace HB1 := Lib.hid (HB1.out.below (drewN_under _ 1) (Nat.le_refl _))
              replace HB2 := Lib.hid (HB2.out.below (drewN_under _ 1) (Nat.le_refl _))
              go_region_held3 (fun u => u.cell? ⟨w.heap.size, 0, none⟩ = some (.slice A ne ca) ∧ u.cell? ⟨w.heap.size, 1, none⟩ = some (.slice A2 nm ca2) ∧ u.cell? ⟨w.heap.size + 1, 0, none⟩ = some (.slice B na cb) ∧ u.cell? ⟨w.heap.size + 1, 1, none⟩ = some (.slice B2 nr cr) ∧ u.cell? ⟨w.heap.size + 1, 2, none⟩ = some (.slice D nd cd) ∧ u.cell? ⟨w.heap.size + 1, 3, none⟩ = some (.slice D2 ns cs))
                (first | exact HK.out _ HBX.out | exact HK.out _ HBY.out)
                (first
                  | (go_at_call 13; refine (bytes_n _ _ _ _ _ _ b1 b2 _ rfl rfl HB1.out HB2.out).mono ?_; rintro e w7 ⟨rfl, rfl⟩; rw [HBB.out])
                  | (go_at_call 17; refine (HSB.out _ HBX.out.b2_bel).mono ?_; rintro e w8 ⟨rfl, hb⟩; replace HBX := Lib.hid (bx2_step HBX.out hb); replace HB1 := Lib.hid (HB1.out.below hb (Nat.le_refl _)); replace HB2 := Lib.hid (HB2.out.below hb (Nat.le_refl _)); clear hb)
                  | (go_at_call 10; refine (HLV.out _ HBX.out.b2_bel).mono ?_; rintro e w9 ⟨rfl, hb⟩; replace HBX := Lib.hid (bx2_step HBX.out hb); replace HB1 := Lib.hid (HB1.out.below hb (Nat.le_refl _)); replace HB2 := Lib.hid (HB2.out.below hb (Nat.le_refl _)); clear hb))
              all_goals
                go_wp2
                go_ret
                exact ⟨rfl, HBX.out.b2_bel⟩
end Go.Proofs.YtloheacncefkgaaGreatDoor

/- Layer 21: a value's bytes are its slots' bytes, one by one, and then those of its Rest: the law's walk. Conditions: EncOk's; those that each theorem names. -/
namespace Go.Proofs.YtloheacncefkgaaGreatDoor
open Go.RowKit
set_option linter.unusedVariables false
set_option maxRecDepth 100000

theorem supB_sub {α : Type} {f : α → Nat} {l m : List α} (h : l.Sublist m) : supB f l ≤ supB f m := by
  induction h with
  | slnil => exact Nat.le_refl _
  | cons a _ ih => rw [supB]; omega
  | cons_cons a _ ih => rw [supB, supB]; omega
theorem sumB_sub {α : Type} {f : α → Nat} {l m : List α} (h : l.Sublist m) : sumB f l ≤ sumB f m := by
  induction h with
  | slnil => exact Nat.le_refl _
  | cons a _ ih => rw [sumB]; omega
  | cons_cons a _ ih => rw [sumB, sumB]; omega
theorem flatMap_mem_len {α β : Type} (g : α → List β) {l : List α} {x : α} (h : x ∈ l) : (g x).length ≤ (l.flatMap g).length := by
  induction l with
  | nil => cases h
  | cons y l ih =>
    rw [List.flatMap_cons, List.length_append]
    rcases List.mem_cons.mp h with rfl | h
    · omega
    · have := ih h; omega
section
variable {s : Sc} {k : Nat} {name : List UInt8} {x u : Tr}
theorem deep_less (hs : u.slots.Sublist x.slots) : deepN (k + 1) u ≤ deepN (k + 1) x := by
  rw [deepN, deepN]
  have := supB_sub (f := fun s : Slt => supB (fun v : Va => supB (deepN k) v.vm) s.svals) hs
  omega
theorem cost_less (hs : u.slots.Sublist x.slots) (hr : u.rest.Sublist x.rest) : costN (k + 1) u ≤ costN (k + 1) x := by
  rw [costN, costN]
  have h1 := sumB_sub (f := fun s : Slt => s.svals.length + sumB (fun v : Va => v.vs.length / 20 + sumB (fun u => 1 + costN k u) v.vm) s.svals) hs
  have h2 := sumB_sub (f := fun r : Rw => r.s.length / 20) hr
  have h3 := hs.length_le
  have h4 := hr.length_le
  omega
theorem put_part (h : putC s (k + 1) name x = 0) (hs : u.slots.Sublist x.slots) (hr : u.rest.Sublist x.rest) (hl : (encN s (k + 1) name u).length ≤ (encN s (k + 1) name x).length) : putC s (k + 1) name u = 0 ∧ putB s (k + 1) name u = encN s (k + 1) name u := by
  have hd := deep_less (k := k) hs
  rcases put_ways s (k + 1) name x with ⟨_, e, _⟩ | ⟨_, _, e, _⟩ | ⟨_, _, _, e, _⟩ | ⟨_, _, _, _, e, _⟩ | ⟨a, b, c, d, _, _⟩
  · rw [e] at h; cases h
  · rw [e] at h; cases h
  · rw [e] at h; cases h
  · rw [e] at h; cases h
  · have ht := tree_less b hs hr
    rcases put_ways s (k + 1) name u with ⟨q, _, _⟩ | ⟨_, q, _, _⟩ | ⟨_, _, q, _, _⟩ | ⟨_, _, _, q, _, _⟩ | ⟨_, _, _, _, p, q⟩
    · exact absurd q a
    · rw [ht] at q; cases q
    · omega
    · omega
    · exact ⟨p, q⟩
theorem put_bad (h : ¬ putC s k name x = 0) : putB s k name x = [] := by unfold putB; rw [if_neg h]
theorem enc_split : encN s (k + 1) name x = x.slots.flatMap (fun y => encN s (k + 1) name (.mk [y] [])) ++ encN s (k + 1) name (.mk [] x.rest) := by
  cases hm : vMsg s name with
  | none =>
    have e : ∀ t, encN s (k + 1) name t = [] := fun t => by unfold encN; rw [hm]
    rw [e, e, List.append_nil]
    induction x.slots with
    | nil => rfl
    | cons y l ih => rw [List.flatMap_cons, ← ih, e]; rfl
  | some m =>
    have h1 : ∀ l : List Slt, putR (l.flatMap (xRaws (encN s k) m)) = l.flatMap (fun y => encN s (k + 1) name (.mk [y] [])) := by
      intro l
      induction l with
      | nil => rfl
      | cons y l ih =>
        rw [List.flatMap_cons, List.flatMap_cons, putR_append, ih, encN_some hm]
        congr 1
        unfold tRaws
        simp [Tr.slots, Tr.rest]
    rw [encN_some hm, encN_some hm]
    unfold tRaws
    rw [putR_append, h1]
    congr 1
end
theorem tr_one_slot {S : Nat → Prop} {n : Nat} {w : World} {g off na ca : Nat} {B2 : Option Addr} {nr cr : Nat} {x : Tr} (h : TrAt S n w (some ⟨g, off, none⟩) na ca B2 nr cr x) {k : Nat} {y : Slt} (hy : x.slots[k]? = some y) : TrAt S n w (some ⟨g, off + k * 2, none⟩) 1 (ca - k) none 0 0 (.mk [y] []) := by
  obtain ⟨hk, e⟩ := List.getElem?_eq_some_iff.mp hy
  have h1 := lst_take (lst_drop h.t_s (Nat.le_of_lt hk)) 1
  rw [List.drop_eq_getElem_cons hk, e] at h1
  exact ⟨h1, lst_empty _ _ _ (by decide) (fun _ => rfl), rfl, rfl⟩
theorem tr_rest {S : Nat → Prop} {n : Nat} {w : World} {A : Option Addr} {na ca : Nat} {B2 : Option Addr} {nr cr : Nat} {x : Tr} (h : TrAt S n w A na ca B2 nr cr x) : TrAt S n w none 0 0 B2 nr cr (.mk [] x.rest) :=
  ⟨lst_empty _ _ _ (by decide) (fun _ => rfl), h.t_r, rfl, h.t_nr⟩
/-- An append of bytes behind a guard that says yes. -/
theorem wpList_append_bsw {P : Program} {w : World} {ops : Array Oper} {rest : List Oper} {o : Oper} {a : Act} {Q : Exit → Act → World → Prop} (hgd : Region.wanted o (yielded ops a.tmps) = true) (s x : Operand) (t : TypeId)
    (ho : o.op = .call { callee := .builtin .append, args := #[s, x], argTypes := #[t, t] })
    (base : Nat) (e : TypeId) (i : TypeInfo) (ht : P.underlying t = some (.slice e)) (hi : P.info? e = some i) (hz : i.zero = some (.int .u8 0)) (hsize : i.size = 1) (hby : i.bytes = 1)
    (v : Value) (n : Nat) (pre : List UInt8) (hs : a.eval s = v) (hown : w.ownsRow base e 1 v n (cellsOf pre))
    (A : Option Addr) (m c : Nat) (bs : List UInt8) (hx : a.eval x = .slice A m c) (hm : m = bs.length) (hb : Bs w A c bs)
    (h47 : pre.length + bs.length ≤ 140737488355328) (hbase : base ≤ w.heap.size)
    (h : ∀ v' w', w'.ownsRow base e 1 v' (pre.length + bs.length) (cellsOf (pre ++ bs)) → w.grownBy w' v.ownBlock → Moved w v v' → wpList P ops Q rest (a.put o.dst v') w') : wpList P ops Q (o :: rest) a w := by
  subst hm
  obtain ⟨hn, _⟩ := Bs.own hown
  subst hn
  rcases A with _ | ad
  · have h0 := hb.nil rfl
    have hle := hb.le
    have hbs : bs = [] := List.eq_nil_of_length_eq_zero (by omega)
    subst hbs h0
    refine BigFrame.wpList_want hgd fun K hK' => ?_
    have hrun := run_append_owned_none (P := P) w base t o.type e i 1 ht hi v pre.length (cellsOf pre) hown
    unfold Oper.wp
    simp [execOp, ho, resolve, invoke, builtin, hs, hx, hrun, Result.andThen]
    exact hK' _ _ (h v w (by simpa using hown) (World.grownBy.refl _ _) (.inl rfl))
  · exact BigFrame.wpList_want hgd fun _ hK' => wp_append2 s x t ho base e i (.int .u8 0) 1 1 ht hi hz hsize hby rfl (by decide) v pre.length (cellsOf pre) hs hown ad bs.length c (cellsOf bs) hx
      (by rw [cellsOf_length]; omega) (fun j u hu => by
        obtain ⟨b, hbj, rfl⟩ := cellsOf_get hu
        obtain ⟨bl, off, ea, hcell⟩ := hb.at_ j b hbj
        cases ea
        have hplain : (⟨bl, off, none⟩ : Addr).add j = ⟨bl, off + j, none⟩ := by unfold Addr.add; split <;> simp_all
        rw [hplain]; exact hcell) (cellsOf_one bs) (by unfold maxLen; omega) (by omega) hbase (fun v' w' h1 h2 h3 => hK' _ _ (h v' w' (by rw [cellsOf_append]; exact h1) h2 h3))
set_option maxHeartbeats 64000000 in
theorem encoderest_walk {E : World → Prop} (ok : EncOk E) (w : World) (env : E w) {SS : Nat → Nat → Prop} {A A2 : Option Addr} {ne ca nm ca2 : Nat} {s : Sc} (h : ScAt SS w A ne ca A2 nm ca2 s) (hok : ScOk s) (t : List UInt8) (htl : t.length ≤ 140737488351232) {S : Nat → Prop} {n : Nat} {B : Option Addr} {na cb : Nat} {B2 : Option Addr} {nr cr : Nat} {x : Tr} (hx : TrAt S n w B na cb B2 nr cr x) (ho : OkT x) :
    Calls Tryz.prog 6 #[.agg #[.slice A ne ca, .slice A2 nm ca2], .string (strOf t), .agg #[.slice B na cb, .slice B2 nr cr]] w fun e w' => e = .returned (.bool true) ∧ Below w.heap.size w w' := by
  obtain ⟨i0, hi, hz0, hz1, hz2⟩ := info_parts info_u8
  have HLV := Lib.hid (fun u (hb : Below w.heap.size w u) => enlive_any ok u (ok.erolls env hb))
  have HSM := Lib.hid (fun u (hb : Below w.heap.size w u) => rvsmall_any u (scAt_bel h hb) hok)
  have HCH := Lib.hid (fun u (hb : Below w.heap.size w u) => rvcheck_any u (scAt_bel h hb))
  have HST := Lib.hid (fun u (hb : Below w.heap.size w u) => rsmalltr_any u (trAt_bel hx hb) ho)
  obtain ⟨k1, k2, k3, k4⟩ := trAt_max hx
  have HBX := Lib.hid (bx2_start w #[.slice A ne ca, .slice A2 nm ca2] #[.slice B na cb, .slice B2 nr cr] 25 29)
  have HK : Hid (∀ u, Bx2 w u (.cells #[.slice A ne ca, .slice A2 nm ca2] 25 (0, 0)) (.cells #[.slice B na cb, .slice B2 nr cr] 29 (0, 0)) → u.cell? ⟨w.heap.size, 0, none⟩ = some (.slice A ne ca) ∧ u.cell? ⟨w.heap.size, 1, none⟩ = some (.slice A2 nm ca2) ∧ u.cell? ⟨w.heap.size + 1, 0, none⟩ = some (.slice B na cb) ∧ u.cell? ⟨w.heap.size + 1, 1, none⟩ = some (.slice B2 nr cr)) := Lib.hid (fun u hu => ⟨obj_cell hu.b2_one 0, obj_cell hu.b2_one 1, obj_cell hu.b2_two 0, obj_cell hu.b2_two 1⟩)
  obtain ⟨r0, r1, s0, s1⟩ := HK.out _ HBX.out
  cases hs : smallT s with
  | false =>
    rw [hs] at HSM
    clear ok env h hok hx ho hs HST HCH
    generalize strOf t = st at *
    go_enter Tryz.func6, Tryz.ntmps6
    go_wp2_with (first
      | (go_at_call 7; refine (HSM.out _ HBX.out.b2_bel).mono ?_; rintro e w1 ⟨rfl, hb⟩; replace HBX := Lib.hid (bx2_step HBX.out hb); obtain ⟨r0, r1, s0, s1⟩ := HK.out _ HBX.out; clear hb)
      | (go_at_call 10; refine (HLV.out _ HBX.out.b2_bel).mono ?_; rintro e w9 ⟨rfl, hb⟩; replace HBX := Lib.hid (bx2_step HBX.out hb); obtain ⟨r0, r1, s0, s1⟩ := HK.out _ HBX.out; clear hb))
    go_ret
    exact ⟨rfl, HBX.out.b2_bel⟩
  | true =>
    rw [hs] at HSM
    by_cases hc : checkT s = 0
    case neg =>
      obtain ⟨c, hcc⟩ : ∃ c, c = checkT s := ⟨_, rfl⟩
      rw [← hcc] at HCH hc
      have g1 : (c != 0) = true := bne_iff_ne.2 hc
      clear ok env h hok hx ho hs hcc HST
      generalize strOf t = st at *
      go_enter Tryz.func6, Tryz.ntmps6
      go_wp2_with (first
        | (go_at_call 7; refine (HSM.out _ HBX.out.b2_bel).mono ?_; rintro e w1 ⟨rfl, hb⟩; replace HBX := Lib.hid (bx2_step HBX.out hb); obtain ⟨r0, r1, s0, s1⟩ := HK.out _ HBX.out; clear hb)
        | (go_at_call 8; refine (HCH.out _ HBX.out.b2_bel).mono ?_; rintro e w2 ⟨rfl, hb⟩; replace HBX := Lib.hid (bx2_step HBX.out hb); obtain ⟨r0, r1, s0, s1⟩ := HK.out _ HBX.out; clear hb)
        | (go_at_call 10; refine (HLV.out _ HBX.out.b2_bel).mono ?_; rintro e w9 ⟨rfl, hb⟩; replace HBX := Lib.hid (bx2_step HBX.out hb); obtain ⟨r0, r1, s0, s1⟩ := HK.out _ HBX.out; clear hb))
      go_ret
      exact ⟨rfl, HBX.out.b2_bel⟩
    case pos =>
      rw [hc] at HCH
      cases h1 : smallTr n x with
      | false =>
        rw [h1] at HST
        clear ok env h hok hx ho hs h1 hc
        generalize strOf t = st at *
        go_enter Tryz.func6, Tryz.ntmps6
        go_wp2_with (first
          | (go_at_call 7; refine (HSM.out _ HBX.out.b2_bel).mono ?_; rintro e w1 ⟨rfl, hb⟩; replace HBX := Lib.hid (bx2_step HBX.out hb); obtain ⟨r0, r1, s0, s1⟩ := HK.out _ HBX.out; clear hb)
          | (go_at_call 8; refine (HCH.out _ HBX.out.b2_bel).mono ?_; rintro e w2 ⟨rfl, hb⟩; replace HBX := Lib.hid (bx2_step HBX.out hb); obtain ⟨r0, r1, s0, s1⟩ := HK.out _ HBX.out; clear hb)
          | (go_at_call 9; refine (HST.out _ HBX.out.b2_bel).mono ?_; rintro e w3 ⟨rfl, hb⟩; replace HBX := Lib.hid (bx2_step HBX.out hb); obtain ⟨r0, r1, s0, s1⟩ := HK.out _ HBX.out; clear hb)
          | (go_at_call 10; refine (HLV.out _ HBX.out.b2_bel).mono ?_; rintro e w9 ⟨rfl, hb⟩; replace HBX := Lib.hid (bx2_step HBX.out hb); obtain ⟨r0, r1, s0, s1⟩ := HK.out _ HBX.out; clear hb))
        go_ret
        exact ⟨rfl, HBX.out.b2_bel⟩
      | true =>
        rw [h1] at HST
        obtain ⟨hf1, hd1, _⟩ := small_fits h1
        have hk1 := small_cost h1
        have HP1 := Lib.hid (fun u (hb : Below w.heap.size w u) => ok.eput u t (ok.erolls env hb) hok hc (scAt_bel h hb) (trAt_bel hx hb) hf1 (ho (n + 1)) (by omega) (by omega))
        unfold EnPut at HP1
        by_cases z1 : putC s (n + 1) t x = 0
        case neg =>
          rw [put_bad z1] at HP1
          obtain ⟨c1, hc1⟩ : ∃ c1 : Int, c1 = (putC s (n + 1) t x : Int) := ⟨_, rfl⟩
          have g1 : (c1 != 0) = true := bne_iff_ne.2 (by omega)
          rw [← hc1] at HP1
          clear ok env h hok hx ho hs h1 hc hf1 hd1 hk1 hc1 z1
          generalize strOf t = st at *
          go_enter Tryz.func6, Tryz.ntmps6
          go_wp2_with (first
            | (go_at_call 7; refine (HSM.out _ HBX.out.b2_bel).mono ?_; rintro e w1 ⟨rfl, hb⟩; replace HBX := Lib.hid (bx2_step HBX.out hb); obtain ⟨r0, r1, s0, s1⟩ := HK.out _ HBX.out; clear hb)
            | (go_at_call 8; refine (HCH.out _ HBX.out.b2_bel).mono ?_; rintro e w2 ⟨rfl, hb⟩; replace HBX := Lib.hid (bx2_step HBX.out hb); obtain ⟨r0, r1, s0, s1⟩ := HK.out _ HBX.out; clear hb)
            | (go_at_call 9; refine (HST.out _ HBX.out.b2_bel).mono ?_; rintro e w3 ⟨rfl, hb⟩; replace HBX := Lib.hid (bx2_step HBX.out hb); obtain ⟨r0, r1, s0, s1⟩ := HK.out _ HBX.out; clear hb)
            | (go_at_call 11; refine (HP1.out _ HBX.out.b2_bel).mono ?_; rintro e w5 ⟨P1, q1, rfl, hB, hb⟩; have HB1 := Lib.hid hB; replace HBX := Lib.hid (bx2_step HBX.out hb); obtain ⟨r0, r1, s0, s1⟩ := HK.out _ HBX.out; clear hb hB)
            | (go_at_call 14; refine (ennum_any _ _).mono ?_; rintro e wn ⟨rfl, rfl⟩)
            | (go_at_call 10; refine (HLV.out _ HBX.out.b2_bel).mono ?_; rintro e w9 ⟨rfl, hb⟩; replace HBX := Lib.hid (bx2_step HBX.out hb); obtain ⟨r0, r1, s0, s1⟩ := HK.out _ HBX.out; clear hb))
          go_ret
          exact ⟨rfl, HBX.out.b2_bel⟩
        case pos =>
          obtain ⟨_, hE1, hE2⟩ := put_zero z1
          have HPS : Hid (∀ (k : Nat) y, x.slots[k]? = some y → ∃ gv ov, B = some ⟨gv, ov, none⟩ ∧ ∀ u, Below w.heap.size w u → Calls Tryz.prog 11 #[.agg #[.slice A ne ca, .slice A2 nm ca2], .string (strOf t), .agg #[.slice (some ⟨gv, ov + k * 2, none⟩) 1 (cb - k), .slice none 0 0]] u (EnPut u (encN s (n + 1) t (.mk [y] [])) 0)) := Lib.hid (fun k y hy => by
            obtain ⟨gv, ov, C, cc, rfl, _⟩ := sl_at hx.t_s hy
            refine ⟨gv, ov, rfl, fun u hb => ?_⟩
            have hm := List.mem_of_getElem? hy
            have hs1 : (Tr.mk [y] []).slots.Sublist x.slots := List.singleton_sublist.mpr hm
            have hr1 : (Tr.mk [y] []).rest.Sublist x.rest := List.nil_sublist _
            have hle : (encN s (n + 1) t (.mk [y] [])).length ≤ (encN s (n + 1) t x).length := by
              rw [enc_split (x := x), List.length_append]
              have := flatMap_mem_len (fun y => encN s (n + 1) t (.mk [y] [])) hm
              omega
            obtain ⟨z2, z3⟩ := put_part z1 hs1 hr1 hle
            have := ok.eput u t (ok.erolls env hb) hok hc (scAt_bel h hb) (trAt_bel (tr_one_slot hx hy) hb) (fit_less hf1 hs1 hr1) (ok_less (ho (n + 1)) hs1 hr1) (by have := deep_less (k := n) hs1; omega) (by have := cost_less (k := n) hs1 hr1; omega)
            rw [z2, z3] at this
            exact this)
          have HPR : Hid (∀ u, Below w.heap.size w u → Calls Tryz.prog 11 #[.agg #[.slice A ne ca, .slice A2 nm ca2], .string (strOf t), .agg #[.slice none 0 0, .slice B2 nr cr]] u (EnPut u (encN s (n + 1) t (.mk [] x.rest)) 0)) := Lib.hid (fun u hb => by
            have hs1 : (Tr.mk [] x.rest).slots.Sublist x.slots := List.nil_sublist _
            have hr1 : (Tr.mk [] x.rest).rest.Sublist x.rest := List.Sublist.refl _
            have hle : (encN s (n + 1) t (.mk [] x.rest)).length ≤ (encN s (n + 1) t x).length := by
              rw [enc_split (x := x), List.length_append]
              omega
            obtain ⟨z2, z3⟩ := put_part z1 hs1 hr1 hle
            have := ok.eput u t (ok.erolls env hb) hok hc (scAt_bel h hb) (trAt_bel (tr_rest hx) hb) (fit_less hf1 hs1 hr1) (ok_less (ho (n + 1)) hs1 hr1) (by have := deep_less (k := n) hs1; omega) (by have := cost_less (k := n) hs1 hr1; omega)
            rw [z2, z3] at this
            exact this)
          rw [z1, hE2] at HP1
          have hsp := enc_split (s := s) (k := n) (name := t) (x := x)
          have HNA := Lib.hid hx.t_ns
          obtain ⟨sl, hsl⟩ : ∃ sl, sl = x.slots := ⟨_, rfl⟩
          obtain ⟨en, hen⟩ : ∃ z, z = encN s (n + 1) t x := ⟨_, rfl⟩
          obtain ⟨er, her⟩ : ∃ z, z = encN s (n + 1) t (.mk [] x.rest) := ⟨_, rfl⟩
          obtain ⟨G, hG⟩ : ∃ G : Slt → List UInt8, G = fun y => encN s (n + 1) t (.mk [y] []) := ⟨_, rfl⟩
          have HPT : Hid (∀ (k : Nat) y, sl[k]? = some y → ∃ gv ov, B = some ⟨gv, ov, none⟩ ∧ ∀ u, Below w.heap.size w u → Calls Tryz.prog 11 #[.agg #[.slice A ne ca, .slice A2 nm ca2], .string (strOf t), .agg #[.slice (some ⟨gv, ov + k * 2, none⟩) 1 (cb - k), .slice none 0 0]] u (EnPut u (G y) 0)) := Lib.hid (fun k y hy => by rw [hG]; exact HPS.out k y (by rw [← hsl]; exact hy))
          rw [← hen, ← her, ← hsl, ← hG] at hsp
          rw [← hen] at HP1 hE1
          rw [← her] at HPR
          rw [← hsl] at HNA
          have HSP := Lib.hid hsp
          have HE1 := Lib.hid hE1
          unfold EnPut at HPT HPR
          clear ok env h hok hx ho hs h1 hc hf1 hd1 hk1 z1 hE1 hE2 HPS hsl hen her hG hsp
          generalize strOf t = st at *
          go_enter Tryz.func6, Tryz.ntmps6
          go_wp2_with (first
            | (go_at_call 7; refine (HSM.out _ HBX.out.b2_bel).mono ?_; rintro e w1 ⟨rfl, hb⟩; replace HBX := Lib.hid (bx2_step HBX.out hb); obtain ⟨r0, r1, s0, s1⟩ := HK.out _ HBX.out; clear hb)
            | (go_at_call 8; refine (HCH.out _ HBX.out.b2_bel).mono ?_; rintro e w2 ⟨rfl, hb⟩; replace HBX := Lib.hid (bx2_step HBX.out hb); obtain ⟨r0, r1, s0, s1⟩ := HK.out _ HBX.out; clear hb)
            | (go_at_call 9; refine (HST.out _ HBX.out.b2_bel).mono ?_; rintro e w3 ⟨rfl, hb⟩; replace HBX := Lib.hid (bx2_step HBX.out hb); obtain ⟨r0, r1, s0, s1⟩ := HK.out _ HBX.out; clear hb)
            | (go_at_call 11; refine (HP1.out _ HBX.out.b2_bel).mono ?_; rintro e w5 ⟨P1, q1, rfl, hB, hb⟩; have HB1 := Lib.hid hB; replace HBX := Lib.hid (bx2_step HBX.out hb); obtain ⟨r0, r1, s0, s1⟩ := HK.out _ HBX.out; clear hb hB)
            | (go_at_call 14; refine (ennum_any _ _).mono ?_; rintro e wn ⟨rfl, rfl⟩))
          have HU : Hid (∀ u, Below w5.heap.size w5 u → Bx2 w u (.cells #[.slice A ne ca, .slice A2 nm ca2] 25 (0, 0)) (.cells #[.slice B na cb, .slice B2 nr cr] 29 (0, 0))) := Lib.hid (fun u hb => bx2_step HBX.out hb)
          have HO := Lib.hid (own0 w5)
          have HC1 : Hid (Below w5.heap.size w5 (w5.alloc (.cells #[] 5))) := (Below.refl _ w5).alloc (Nat.le_refl _) _
          clear r0 r1 s0 s1 HSM HCH HST HP1 HBX
          go_loopw [9, 10] (fun x9 x10 wr => ∃ (k q : Nat) (vo : Value), k ≤ na ∧ x10 = .int .i64 (k : Int) ∧ x9 = vo ∧ wr.ownsRow w5.heap.size 5 1 vo q (cellsOf ((sl.take k).flatMap G)) ∧ Below w5.heap.size w5 wr) (fun _ x _ => na - (intOf x).toNat)
          case atStart => exact ⟨0, 0, _, Nat.zero_le _, rfl, rfl, HO.out, HC1.out⟩
          case round =>
            obtain ⟨k, q, vo, hk, rfl, rfl, hown, hbel⟩ := hrel
            have HC2 := Lib.hid hbel
            clear HO HC1
            obtain ⟨r0, r1, s0, s1⟩ := HK.out _ (HU.out _ HC2.out)
            by_cases hlt : k < na
            · have g1 : decide ((k : Int) < (na : Int)) = true := decide_eq_true (by omega)
              obtain ⟨y, hy⟩ : ∃ y, sl[k]? = some y := ⟨_, List.getElem?_eq_getElem (by have := HNA.out; omega)⟩
              obtain ⟨gv, ov, rfl, hput⟩ := HPT.out k y hy
              have HPY := Lib.hid (fun u (hb : Below w5.heap.size w5 u) => hput u (HU.out u hb).b2_bel)
              have HFT : Hid ((sl.take (k + 1)).flatMap G = (sl.take k).flatMap G ++ G y) := Lib.hid (flatm_take hy)
              have hlen : ((sl.take k).flatMap G).length + (G y).length ≤ 65536 := by
                have h1 := HE1.out
                rw [HSP.out, List.length_append] at h1
                have h2 := congrArg List.length HFT.out
                rw [List.length_append] at h2
                have h3 := congrArg List.length (show sl.flatMap G = (sl.take (k + 1)).flatMap G ++ (sl.drop (k + 1)).flatMap G by rw [← List.flatMap_append, List.take_append_drop])
                rw [List.length_append] at h3
                omega
              obtain ⟨pre, hpre⟩ : ∃ pre, pre = (sl.take k).flatMap G := ⟨_, rfl⟩
              obtain ⟨fb, hfb⟩ : ∃ fb, fb = G y := ⟨_, rfl⟩
              rw [← hpre] at hown HFT hlen
              rw [← hfb] at HFT hlen HPY
              obtain ⟨hm, Av, capv, hv0, hBs⟩ := Bs.own hown
              subst hv0
              have HLE := Lib.hid hlen
              have HOWN := Lib.hid (own_below hown (drewN_under wr 1))
              have HOWN0 := Lib.hid hown
              have HC20 := HC2
              replace HC2 := Lib.hid (vbel HC20.out (drewN_under wr 1))
              have hwr : IntKind.i64.wrap ((k : Int) + 1) = (k : Int) + 1 := by rw [IntKind.wrap_i64]; omega
              have t1 : (0 : Int) ≤ (k : Int) + 1 := by omega
              have t2 : (k : Int) + 1 ≤ (cb : Int) := by omega
              have t3 : ((k : Int) + 1).toNat = k + 1 := by omega
              have t4 : k + 1 ≤ cb := by omega
              have t5 : (k : Int) ≤ (k : Int) + 1 := by omega
              have t6 : ¬ cb = k := by omega
              have t7 : ¬ cb - k = 0 := by omega
              have t8 : k + 1 - k = 1 := by omega
              have t9 : k ≤ cb := by omega
              clear hown hbel hpre hfb hm hBs hy hput hlen
              go_wp2
              go_region_held3 (fun u => u.cell? ⟨w.heap.size, 0, none⟩ = some (.slice A ne ca) ∧ u.cell? ⟨w.heap.size, 1, none⟩ = some (.slice A2 nm ca2) ∧ u.cell? ⟨w.heap.size + 1, 0, none⟩ = some (.slice (some ⟨gv, ov, none⟩) na cb) ∧ u.cell? ⟨w.heap.size + 1, 1, none⟩ = some (.slice B2 nr cr))
                (first | exact HK.out _ (HU.out _ HC2.out) | exact HK.out _ (HU.out _ HC20.out))
                (first
                  | (go_at_call 11; refine (HPY.out _ HC2.out).mono ?_; rintro e w6 ⟨P6, q6, rfl, hB, hb⟩; have HB6 := Lib.hid hB; have HO6 := Lib.hid (own_below HOWN.out hb); replace HC2 := Lib.hid (vbel HC2.out hb); clear hb hB))
              go_wp2_with (first
                | (go_at_call 14; refine (ennum_any _ _).mono ?_; rintro e wn ⟨rfl, rfl⟩)
                | (at_builtin; refine wpList_append_bs2 rfl _ _ 34 rfl w5.heap.size 5 i0 Tryz.underlying34 hi hz0 hz1 hz2 _ _ pre rfl HO6.out _ _ _ fb rfl rfl HB6.out (by have := HLE.out; omega) HC2.out.size ?_; intro v3 w7 ho3 hg3 hm3; have HO3 := Lib.hid ho3; have HC3 := Lib.hid (HC2.out.grown hg3 HC2.out.size (fun j hj => (HO6.out.lt j hj).1)); clear ho3 hg3 hm3))
              go_roundw
              case rel => exact ⟨k + 1, _, _, by omega, by go_num, rfl, by rw [HFT.out]; exact HO3.out, HC3.out⟩
              case measure => simp [intOf]; omega
            · have g1 : decide ((k : Int) < (na : Int)) = false := decide_eq_false (by omega)
              have e : sl.take k = sl := List.take_of_length_le (by have := HNA.out; omega)
              rw [e] at hown
              have hlen := HE1.out
              rw [HSP.out, List.length_append] at hlen
              obtain ⟨pre, hpre⟩ : ∃ pre, pre = sl.flatMap G := ⟨_, rfl⟩
              rw [← hpre] at hown hlen HSP
              obtain ⟨hm, Av, capv, hv0, hBs⟩ := Bs.own hown
              subst hv0
              have HLE := Lib.hid hlen
              have HOWN := Lib.hid hown
              have HPW := Lib.hid (fun u (hb : Below w5.heap.size w5 u) => HPR.out u (HU.out u hb).b2_bel)
              have HB1W := Lib.hid (HB1.out.below HC2.out (Nat.le_refl _))
              have HSP2 : Hid (decide (en = pre ++ er) = true) := Lib.hid (decide_eq_true HSP.out)
              clear hown hbel hpre hm hBs e hlen
              go_wp2_with (first
                | (go_at_call 11; refine (HPW.out _ HC2.out).mono ?_; rintro e w6 ⟨P6, q6, rfl, hB, hb⟩; have HB6 := Lib.hid hB; have HO6 := Lib.hid (own_below HOWN.out hb); have HC3 := Lib.hid (vbel HC2.out hb); replace HB1W := Lib.hid (HB1W.out.below hb (Nat.le_refl _)); clear hb hB)
                | (go_at_call 14; refine (ennum_any _ _).mono ?_; rintro e wn ⟨rfl, rfl⟩)
                | (at_builtin; refine wpList_append_bsw (by rfl) _ _ 34 rfl w5.heap.size 5 i0 Tryz.underlying34 hi hz0 hz1 hz2 _ _ pre rfl HO6.out _ _ _ er rfl rfl HB6.out (by have := HLE.out; omega) HC3.out.size ?_; intro v3 w7 ho3 hg3 hm3; have HO3 := Lib.hid ho3; have HC4 := Lib.hid (HC3.out.grown hg3 HC3.out.size (fun j hj => (HO6.out.lt j hj).1)); obtain ⟨hm7, A7, c7, hv7, hB7⟩ := Bs.own ho3; subst hv7; have HB7 := Lib.hid hB7; have HB8 := Lib.hid (HB1.out.below HC4.out (Nat.le_refl _)); clear ho3 hg3 hm3 hm7 hB7)
                | (go_at_call 13; refine (bytes_n _ _ _ _ _ _ en (pre ++ er) _ rfl (by first | rfl | (simp; done)) HB8.out HB7.out).mono ?_; rintro e w8 ⟨rfl, rfl⟩; rw [HSP2.out])
                | (go_at_call 10; refine (HLV.out _ (HU.out _ HC4.out).b2_bel).mono ?_; rintro e w9 ⟨rfl, hb⟩; have HF := Lib.hid (vbel (HU.out _ HC4.out).b2_bel hb); clear hb))
              go_ret
              exact ⟨rfl, HF.out⟩
end Go.Proofs.YtloheacncefkgaaGreatDoor
