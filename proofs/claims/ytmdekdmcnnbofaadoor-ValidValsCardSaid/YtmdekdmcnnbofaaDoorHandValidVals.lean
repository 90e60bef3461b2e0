/- THE TIED CARD of the law ValidVals: it returns true for every input (schema, field of a message, value of a field) that can be read, and each argument reads behind the call as it read before. Conditions: the listed variables hold what the program's text lays (tied by the card), and the form's own reach. -/
import Derived.Test.YtmdekdmcnnbofaaDoorCards
import Derived.Test.YtmdekdmcnnbofaaDoorTie
import Derived.SevenTiedAt
import Derived.Test.YtmdekdmcnnbofaaDoorPkVD4
import Derived.Test.YtmdekdmcnnbofaaDoorPkVD15
import Derived.Test.YtmdekdmcnnbofaaDoorPkVD38
import Derived.Test.YtmdekdmcnnbofaaDoorPkVD44
import Derived.Test.YtmdekdmcnnbofaaDoorPkVD22
import Derived.Test.YtmdekdmcnnbofaaDoorPkVD13
import Derived.WalkKit
import Derived.ProofKit
import Derived.OpenShut
import Derived.ShutString
import Derived.ChangeOld
import Derived.Below
import Derived.SizedLaws
namespace Go.Proofs.YtmdekdmcnnbofaaDoor.validVals
open Go.ChangeShapes Go.WideShapes Go.ChangeAt Go.RowKit
open Go.ChangeMaps (open_string shut_string)
set_option linter.unusedVariables false

theorem own : ownKnob Tryd.prog.godebug = none := by kernel_rfl
theorem laidOut : laidOutB Tryd.prog = true := by kernel_rfl

theorem env_of0 {W : World} (h0 : laidMetH Tryd.prog Rows.validValsRow.laid W) (hsh : W.ShapedOpen Tryd.prog) : ScEnv W := by
  rw [MakeChecks.laidMetH_plain _ _ _ (by kernel_rfl)] at h0
  have h : laidMet Tryd.prog [("ecdysis/scalar.rows", Rows.laid_ecdysis_scalar_rows), ("unicode/utf8.acceptRanges", Rows.laid_unicode_utf8_acceptRanges), ("unicode/utf8.first", Rows.laid_unicode_utf8_first)] W := h0
  have e : (Rows.laid_ecdysis_scalar_rows : DataW Unit) = rowsD := by kernel_rfl
  rw [e] at h
  exact sc_made h

theorem env_of1 {W : World} (h0 : laidMetH Tryd.prog Rows.validValsRow.laid W) (hsh : W.ShapedOpen Tryd.prog) : U8Env W := by
  rw [MakeChecks.laidMetH_plain _ _ _ (by kernel_rfl)] at h0
  have h : laidMet Tryd.prog [("ecdysis/scalar.rows", Rows.laid_ecdysis_scalar_rows), ("unicode/utf8.acceptRanges", Rows.laid_unicode_utf8_acceptRanges), ("unicode/utf8.first", Rows.laid_unicode_utf8_first)] W := h0
  have e3 : (Rows.laid_unicode_utf8_first : DataW Unit) = Lib.firstData := by kernel_rfl
  have e4 : (Rows.laid_unicode_utf8_acceptRanges : DataW Unit) = Lib.acceptData := by kernel_rfl
  rw [e3, e4] at h
  exact u8_made h (by simp) (by simp)

set_option maxRecDepth 100000 in
theorem lifted (os : Os) (started : os.Started) (H : Type) (enc : TypeId × Value → H) :
    ReturnsInHanded {} Tryd.checked os 4 .any (fun w args => (Rows.validValsSpec.pre enc Tryd.prog Tryd.f4 Rows.validValsRow.domain false w args ∧ laidMetH Tryd.prog Rows.validValsRow.laid w) ∧ sizedMet enc Tryd.prog Tryd.f4 (OpenSpec.ofChange Rows.validValsSpec) false w args)
      (Rows.validValsSpec.post enc Tryd.prog Tryd.f4 false true false false) := by
  refine handed_laid (C := Tryd.checked) (X := fun w _ => laidMetH Tryd.prog Rows.validValsRow.laid w) (fun _ _ _ hh h => h.of_heap hh) own started (by kernel_rfl) Tryd.func4
    (ChangeSpec.witness_shaped (enc := enc) (C := Tryd.checked) (os := os) (X := fun w _ => laidMetH Tryd.prog Rows.validValsRow.laid w) false (World.laidAll Tryd.prog os Rows.validValsRow.laid) #[.agg #[.slice none 0 0, .slice none 0 0], .agg #[.string ⟨#[]⟩, .int .i64 0, .int .i64 0, .string ⟨#[]⟩, .bool false, .bool false, .string ⟨#[]⟩], .agg #[.int .u64 0, .string ⟨#[]⟩, .slice none 0 0]] 8 (World.laidAll_os _ _ _)
      (World.shaped_of_ZipB (by kernel_rfl) (by kernel_rfl)) (by kernel_rfl) (by kernel_rfl) (by kernel_rfl)
      (by rw [MakeChecks.laidMetH_plain _ _ _ (by kernel_rfl)]; exact laidMet_laidAll _ (by kernel_rfl) (by kernel_rfl))) ?_
  intro W base args ds gs before hval0 hW hcnd hsz0 hL hsh _
  have env0 := env_of0 hL hsh
  have env1 := env_of1 hL hsh
  have hsz : (DataW.weightsEach Tryd.prog (Tryd.f4.params.toList ++ Rows.validValsSpec.plain.varTypes Tryd.prog) (ds ++ gs)).all (· ≤ reachBytes) = true := hsz0
  have hval : ∀ (j : Nat) t v, Tryd.f4.params[j]? = some t → args[j]? = some v → Value.okWide Tryd.prog W .any base t v := hval0
  have hW' := hW
  obtain ⟨p, q, hA0, hV, rfl, hfz, hnd⟩ := hW
  have hA : DataW.TrodAll enc Tryd.prog W 0 (fun _ => true) true Tryd.f4.params.toList args.toList ds p := hA0
  rw [Tryd.params4] at hA hval hsz
  obtain ⟨v0, vs0, d0, ds0, p0, q0, hargs, rfl, rfl, h0, r0⟩ := trodAll_cons hA
  obtain ⟨v1, vs1, d1, ds1, p1, q1, rfl, rfl, rfl, h1, r1⟩ := trodAll_cons r0
  obtain ⟨v2, vs2, d2, ds2, p2, q2, rfl, rfl, rfl, h2, r2⟩ := trodAll_cons r1
  obtain ⟨rfl, rfl, rfl⟩ := trodAll_nil r2
  obtain rfl : args = #[v0, v1, v2] := by cases args; simp_all
  obtain ⟨rfl, rfl⟩ := trodVars_none hV
  obtain ⟨x0, rfl, xz0⟩ := agg_struct Tryd.underlying25 (hval 0 25 v0 rfl rfl)
  have k0 := h0
  have lt0 : ∀ x ∈ p0, x.block < W.heap.size := by obtain ⟨m, hm⟩ := k0; exact DataW.trod_lt m _ _ _ hm
  obtain ⟨s0, S0, hk0⟩ : ∃ s : Sc, scR (fun _ g => g < W.heap.size) W x0.toList s ∧ ScOk s := by
    obtain ⟨fuel, hf⟩ := h0
    exact sc_came _ _ _ hf (fun n hn => by have := List.all_eq_true.1 hsz n (DataW.weights_mem_each (j := 0) rfl rfl n hn); exact of_decide_eq_true this)
  obtain ⟨A0, c0, B0, e0, hx0, hE0, hM0⟩ := S0
  obtain rfl : x0 = #[.slice A0 s0.enums.length c0, .slice B0 s0.msgs.length e0] := by cases x0; simpa using hx0
  obtain ⟨x1, rfl, xz1⟩ := agg_struct Tryd.underlying35 (hval 1 35 v1 rfl rfl)
  have k1 := h1
  have lt1 : ∀ x ∈ p1, x.block < W.heap.size := by obtain ⟨m, hm⟩ := k1; exact DataW.trod_lt m _ _ _ hm
  obtain ⟨f1, fe1, fd1, fa1, fb1⟩ := field_came h1
  obtain ⟨fn1, fr1, fo1⟩ := field_sized (f := f1) hsz (j := 1) rfl (by rw [fd1]; rfl)
  simp only [reachBytes] at fn1 fr1 fo1
  have fe12 := fe1
  unfold fdV at fe12
  injection fe12 with fx1
  subst fx1
  obtain ⟨x2, rfl, xz2⟩ := agg_struct Tryd.underlying39 (hval 2 39 v2 rfl rfl)
  have k2 := h2
  have lt2 : ∀ x ∈ p2, x.block < W.heap.size := by obtain ⟨m, hm⟩ := k2; exact DataW.trod_lt m _ _ _ hm
  obtain ⟨u2, n2, A2, ca2, hx2, hK2, hL2, hO2, hU2⟩ : ∃ (v : Va) (n : Nat) (A : Option Addr) (ca : Nat), x2.toList = [.int .u64 (v.vn : Int), .string (strOf v.vs), .slice A v.vm.length ca] ∧ KsAt (fun g => g < W.heap.size) n W A ca v.vm ∧ (v.vs.length ≤ mxL ∧ v.vn < 18446744073709551616) ∧ v.vm.length ≤ mxL ∧ ∀ u ∈ v.vm, OkT u := by
    obtain ⟨fuel, hf⟩ := h2
    exact val_came hf (fun n hn => by have := List.all_eq_true.1 hsz n (DataW.weights_mem_each (j := 2) rfl rfl n hn); exact of_decide_eq_true this)
  obtain rfl : x2 = #[.int .u64 (u2.vn : Int), .string (strOf u2.vs), .slice A2 u2.vm.length ca2] := by cases x2; simpa using hx2
  clear hA0 hval0
  refine ((fun W e0 e1 => validvals_walk W ⟨e0, e1⟩) W env0 env1 (show ScAt (fun _ g => g < W.heap.size) W _ _ _ _ _ _ _ from ⟨hE0, hM0, rfl, rfl⟩) hk0 f1 ⟨fa1, fb1, by omega, by omega, by omega⟩ u2 hK2 hL2 hO2 hU2).mono fun e W' ⟨he, bel⟩ => ?_
  subst he
  exact ⟨_, rfl, _, _, _, [], _, [], hW', trodAll_mk1 (shut_bool Tryd.underlying4 _), (trodAll_cons_mk (Below.trod laidOut (by kernel_rfl) (of_decide_eq_true (by kernel_rfl)) k0 bel lt0) (trodAll_cons_mk (Below.trod laidOut (by kernel_rfl) (of_decide_eq_true (by kernel_rfl)) k1 bel lt1) (trodAll_cons_mk (Below.trod laidOut (by kernel_rfl) (of_decide_eq_true (by kernel_rfl)) k2 bel lt2) trodAll_mk0))), rfl, bel.frame _, fun h => by cases h⟩

theorem over : Rows.validValsRow.holds Tryd.pinned (OpenSpec.ofChange Rows.validValsSpec) :=
  OpenClaim.holds_of_wide 4 Tryd.f4 rfl rfl rfl rfl rfl rfl rfl ⟨rfl, rfl, rfl, rfl, rfl⟩ rfl rfl rfl rfl rfl (by kernel_rfl) Tryd.func4 (by kernel_rfl)
    (of_decide_eq_true (by kernel_rfl)) (by unfold Func.isWrapper; first | (rw [if_pos (by decide +kernel)]; kernel_rfl) | (rw [if_neg (by decide +kernel)]; exact ⟨rfl, rfl⟩))
    (fun os started H enc _ => lifted os started H enc)

/-- The statement: the card, closed by the given tie. -/
theorem proved : Rows.ValidValsCardSaid :=
  Claim7.holds_tied_plain_at .later [] [.data, .data, .pinned] true (true, "cd46babfe56d002b63f4be0eed71cfedc69b79fbb79385d1a0a571f6ea40dc6f") false over (fun _ h => by cases h) (by kernel_rfl) (fun _ h => by cases h) validVals_row_tie rfl ⟨rfl, rfl⟩ (by kernel_rfl) rfl
    (fun f fn hf hfn => by
      obtain rfl : f = 4 := Option.some.inj ((show Tryd.prog.funcNamed "ecdysis/ecdysislaw20.ValidVals" = some 4 by kernel_rfl).symm.trans hf) |>.symm
      obtain rfl : fn = Tryd.f4 := (Option.some.inj (Tryd.func4.symm.trans hfn)).symm
      exact ⟨by kernel_rfl, fun j t ht => by
        rw [Tryd.params4] at ht
        have hm : t ∈ [25, 35, 39] := by simpa using Array.mem_of_getElem? ht
        have hall : ([25, 35, 39].all fun u => !Tryd.prog.wantsStandIn u) = true := by kernel_rfl
        exact (show Tryd.prog.wantsStandIn t = false by simpa using List.all_eq_true.1 hall t hm)⟩)
    (by kernel_rfl)
#print axioms proved
end Go.Proofs.YtmdekdmcnnbofaaDoor.validVals
