/- THE TIED CARD of the law SparseBack: it returns true for every input (schema) that can be read, and each argument reads behind the call as it read before. Conditions: the listed variables hold what the program's text lays (tied by the card), and the form's own reach. -/
import Derived.Test.YtcjjphioeneiiaaGreatDoorCards
import Derived.Test.YtcjjphioeneiiaaGreatDoorTie
import Derived.SevenTiedAt
import Derived.Test.YtcjjphioeneiiaaGreatDoorPkSB22
import Derived.Test.YtcjjphioeneiiaaGreatDoorPkSB5
import Derived.Test.YtcjjphioeneiiaaGreatDoorPkSB12
import Derived.Test.YtcjjphioeneiiaaGreatDoorPkSB51
import Derived.Test.YtcjjphioeneiiaaGreatDoorPkSB42
import Derived.Test.YtcjjphioeneiiaaGreatDoorPkSB11
import Derived.WalkKit
import Derived.ProofKit
import Derived.OpenShut
import Derived.ShutString
import Derived.ChangeOld
import Derived.Below
import Derived.SizedLaws
namespace Go.Proofs.YtcjjphioeneiiaaGreatDoor.sparseBack
open Go.ChangeShapes Go.WideShapes Go.ChangeAt Go.RowKit
open Go.ChangeMaps (open_string shut_string)
set_option linter.unusedVariables false

theorem own : ownKnob Tryz.prog.godebug = none := by kernel_rfl
theorem laidOut : laidOutB Tryz.prog = true := by kernel_rfl

theorem env_of0 {W : World} (h0 : laidMetH Tryz.prog Rows.sparseBackRow.laid W) (hsh : W.ShapedOpen Tryz.prog) : LexEnv W := by
 rw [MakeChecks.laidMetH_plain _ _ _ (by kernel_rfl)] at h0
 have h : laidMet Tryz.prog [("ecdysis/scalar.rows", Rows.laid_ecdysis_scalar_rows), ("math/bits.deBruijn32tab", Rows.laid_math_bits_deBruijn32tab), ("math/bits.deBruijn64tab", Rows.laid_math_bits_deBruijn64tab), ("internal/strconv.uint64pow10", Rows.laid_internal_strconv_uint64pow10), ("strconv.ErrRange", Rows.laid_strconv_ErrRange), ("strconv.ErrSyntax", Rows.laid_strconv_ErrSyntax)] W := h0
 exact env_made h.tail.tail.tail h.tail.tail.tail.tail.tail h.tail.tail.tail.tail hsh

theorem env_of1 {W : World} (h0 : laidMetH Tryz.prog Rows.sparseBackRow.laid W) (hsh : W.ShapedOpen Tryz.prog) : ScEnv W := by
 rw [MakeChecks.laidMetH_plain _ _ _ (by kernel_rfl)] at h0
 have h : laidMet Tryz.prog [("ecdysis/scalar.rows", Rows.laid_ecdysis_scalar_rows), ("math/bits.deBruijn32tab", Rows.laid_math_bits_deBruijn32tab), ("math/bits.deBruijn64tab", Rows.laid_math_bits_deBruijn64tab), ("internal/strconv.uint64pow10", Rows.laid_internal_strconv_uint64pow10), ("strconv.ErrRange", Rows.laid_strconv_ErrRange), ("strconv.ErrSyntax", Rows.laid_strconv_ErrSyntax)] W := h0
 have e : (Rows.laid_ecdysis_scalar_rows : DataW Unit) = rowsD := by kernel_rfl
 rw [e] at h
 exact sc_made h

set_option maxRecDepth 100000 in
theorem lifted (os : Os) (started : os.Started) (H : Type) (enc : TypeId × Value → H) :
 ReturnsInHanded {} Tryz.checked os 4 .any (fun w args => (Rows.sparseBackSpec.pre enc Tryz.prog Tryz.f4 Rows.sparseBackRow.domain false w args ∧ laidMetH Tryz.prog Rows.sparseBackRow.laid w) ∧ sizedMet enc Tryz.prog Tryz.f4 (OpenSpec.ofChange Rows.sparseBackSpec) false w args)
  (Rows.sparseBackSpec.post enc Tryz.prog Tryz.f4 false true false false) := by
 refine handed_laid (C := Tryz.checked) (X := fun w _ => laidMetH Tryz.prog Rows.sparseBackRow.laid w) (fun _ _ _ hh h => h.of_heap hh) own started (by kernel_rfl) Tryz.func4
  (ChangeSpec.witness_shaped (enc := enc) (C := Tryz.checked) (os := os) (X := fun w _ => laidMetH Tryz.prog Rows.sparseBackRow.laid w) false (World.laidAll Tryz.prog os Rows.sparseBackRow.laid) #[.agg #[.slice none 0 0, .slice none 0 0]] 8 (World.laidAll_os _ _ _)
   (World.shaped_of_ZipB (by kernel_rfl) (by kernel_rfl)) (by kernel_rfl) (by kernel_rfl) (by kernel_rfl)
   (by rw [MakeChecks.laidMetH_plain _ _ _ (by kernel_rfl)]; exact laidMet_laidAll _ (by kernel_rfl) (by kernel_rfl))) ?_
 intro W base args ds gs before hval0 hW hcnd hsz0 hL hsh _
 have env0 := env_of0 hL hsh
 have env1 := env_of1 hL hsh
 have hsz : (DataW.weightsEach Tryz.prog (Tryz.f4.params.toList ++ Rows.sparseBackSpec.plain.varTypes Tryz.prog) (ds ++ gs)).all (· ≤ reachBytes) = true := hsz0
 have hval : ∀ (j : Nat) t v, Tryz.f4.params[j]? = some t → args[j]? = some v → Value.okWide Tryz.prog W .any base t v := hval0
 have hW' := hW
 obtain ⟨p, q, hA0, hV, rfl, hfz, hnd⟩ := hW
 have hA : DataW.TrodAll enc Tryz.prog W 0 (fun _ => true) true Tryz.f4.params.toList args.toList ds p := hA0
 rw [Tryz.params4] at hA hval hsz
 obtain ⟨v0, vs0, d0, ds0, p0, q0, hargs, rfl, rfl, h0, r0⟩ := trodAll_cons hA
 obtain ⟨rfl, rfl, rfl⟩ := trodAll_nil r0
 obtain rfl : args = #[v0] := by cases args; simp_all
 obtain ⟨rfl, rfl⟩ := trodVars_none hV
 obtain ⟨x0, rfl, xz0⟩ := agg_struct Tryz.underlying26 (hval 0 26 v0 rfl rfl)
 have k0 := h0
 have lt0 : ∀ x ∈ p0, x.block < W.heap.size := by obtain ⟨m, hm⟩ := k0; exact DataW.trod_lt m _ _ _ hm
 obtain ⟨s0, S0, hk0⟩ : ∃ s : Sc, scR (fun _ g => g < W.heap.size) W x0.toList s ∧ ScOk s := by
  obtain ⟨fuel, hf⟩ := h0
  exact sc_came _ _ _ hf (fun n hn => by have := List.all_eq_true.1 hsz n (DataW.weights_mem_each (j := 0) rfl rfl n hn); exact of_decide_eq_true this)
 obtain ⟨A0, c0, B0, e0, hx0, hE0, hM0⟩ := S0
 obtain rfl : x0 = #[.slice A0 s0.enums.length c0, .slice B0 s0.msgs.length e0] := by cases x0; simpa using hx0
 clear hA0 hval0
 refine ((fun W e0 e1 => sparseback_walk sparse_few W ⟨e0, e1⟩) W env0 env1 (show ScAt (fun _ g => g < W.heap.size) W _ _ _ _ _ _ _ from ⟨hE0, hM0, rfl, rfl⟩) hk0).mono fun e W' ⟨he, bel⟩ => ?_
 subst he
 exact ⟨_, rfl, _, _, _, [], _, [], hW', trodAll_mk1 (shut_bool Tryz.underlying4 _), (trodAll_cons_mk (Below.trod laidOut (by kernel_rfl) (of_decide_eq_true (by kernel_rfl)) k0 bel lt0) trodAll_mk0), rfl, bel.frame _, fun h => by cases h⟩

theorem over : Rows.sparseBackRow.holds Tryz.pinned (OpenSpec.ofChange Rows.sparseBackSpec) :=
 OpenClaim.holds_of_wide 4 Tryz.f4 rfl rfl rfl rfl rfl rfl rfl ⟨rfl, rfl, rfl, rfl, rfl⟩ rfl rfl rfl rfl rfl (by kernel_rfl) Tryz.func4 (by kernel_rfl)
  (of_decide_eq_true (by kernel_rfl)) (by unfold Func.isWrapper; first | (rw [if_pos (by decide +kernel)]; kernel_rfl) | (rw [if_neg (by decide +kernel)]; exact ⟨rfl, rfl⟩))
  (fun os started H enc _ => lifted os started H enc)

/-- The statement: the card, closed by the given tie. -/
theorem proved : Rows.SparseBackCardSaid :=
 Claim7.holds_tied_plain_at .later [] [.data, .data, .data, .data, .sentinel, .sentinel] true (true, "db11937e5a72ff5ad766b767a2a98e0ecac051a94f7786daf3de5281f67932fa") true over (fun _ h => by cases h) (by kernel_rfl) (fun _ h => by cases h) sparseBack_row_tie rfl ⟨rfl, rfl⟩ (by kernel_rfl) rfl
  (fun f fn hf hfn => by
   obtain rfl : f = 4 := Option.some.inj ((show Tryz.prog.funcNamed "ecdysis/ecdysislaw18.SparseBack" = some 4 by kernel_rfl).symm.trans hf) |>.symm
   obtain rfl : fn = Tryz.f4 := (Option.some.inj (Tryz.func4.symm.trans hfn)).symm
   exact ⟨by kernel_rfl, fun j t ht => by
    rw [Tryz.params4] at ht
    have hm : t ∈ [26] := by simpa using Array.mem_of_getElem? ht
    have hall : ([26].all fun u => !Tryz.prog.wantsStandIn u) = true := by kernel_rfl
    exact (show Tryz.prog.wantsStandIn t = false by simpa using List.all_eq_true.1 hall t hm)⟩)
  (by kernel_rfl)
#print axioms proved
end Go.Proofs.YtcjjphioeneiiaaGreatDoor.sparseBack
