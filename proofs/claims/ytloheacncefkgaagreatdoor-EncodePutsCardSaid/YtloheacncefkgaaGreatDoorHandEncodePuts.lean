/- THE TIED CARD of the law EncodePuts: it returns true for every input (schema, text, message value) that can be read, and each argument reads behind the call as it read before. Conditions: the listed variables hold what the program's text lays (tied by the card), and the form's own reach. -/
import Derived.Test.YtloheacncefkgaaGreatDoorCards
import Derived.Test.YtloheacncefkgaaGreatDoorTie
import Derived.SevenTiedAt
import Derived.Test.YtloheacncefkgaaGreatDoorPkEU6
import Derived.Test.YtloheacncefkgaaGreatDoorPkEU18
import Derived.Test.YtloheacncefkgaaGreatDoorPkEU40
import Derived.Test.YtloheacncefkgaaGreatDoorPkEU49
import Derived.Test.YtloheacncefkgaaGreatDoorPkEU45
import Derived.Test.YtloheacncefkgaaGreatDoorPkEU32
import Derived.Test.YtloheacncefkgaaGreatDoorPkEU4
import Derived.WalkKit
import Derived.ProofKit
import Derived.OpenShut
import Derived.ShutString
import Derived.ChangeOld
import Derived.Below
import Derived.SizedLaws
namespace Go.Proofs.YtloheacncefkgaaGreatDoor.encodePuts
open Go.ChangeShapes Go.WideShapes Go.ChangeAt Go.RowKit
open Go.ChangeMaps (open_string shut_string)
set_option linter.unusedVariables false

theorem own : ownKnob Tryz.prog.godebug = none := by kernel_rfl
theorem laidOut : laidOutB Tryz.prog = true := by kernel_rfl

theorem env_of0 {W : World} (h0 : laidMetH Tryz.prog Rows.encodePutsRow.laid W) (hsh : W.ShapedOpen Tryz.prog) : ScEnv W := by
 rw [MakeChecks.laidMetH_plain _ _ _ (by kernel_rfl)] at h0
 have h : laidMet Tryz.prog [("ecdysis/scalar.rows", Rows.laid_ecdysis_scalar_rows), ("unicode/utf8.acceptRanges", Rows.laid_unicode_utf8_acceptRanges), ("unicode/utf8.first", Rows.laid_unicode_utf8_first)] W := h0
 have e : (Rows.laid_ecdysis_scalar_rows : DataW Unit) = rowsD := by kernel_rfl
 rw [e] at h
 exact sc_made h

theorem env_of1 {W : World} (h0 : laidMetH Tryz.prog Rows.encodePutsRow.laid W) (hsh : W.ShapedOpen Tryz.prog) : U8Env W := by
 rw [MakeChecks.laidMetH_plain _ _ _ (by kernel_rfl)] at h0
 have h : laidMet Tryz.prog [("ecdysis/scalar.rows", Rows.laid_ecdysis_scalar_rows), ("unicode/utf8.acceptRanges", Rows.laid_unicode_utf8_acceptRanges), ("unicode/utf8.first", Rows.laid_unicode_utf8_first)] W := h0
 have e3 : (Rows.laid_unicode_utf8_first : DataW Unit) = Lib.firstData := by kernel_rfl
 have e4 : (Rows.laid_unicode_utf8_acceptRanges : DataW Unit) = Lib.acceptData := by kernel_rfl
 rw [e3, e4] at h
 exact u8_made h (by simp) (by simp)

set_option maxRecDepth 100000 in
theorem lifted (os : Os) (started : os.Started) (H : Type) (enc : TypeId × Value → H) :
 ReturnsInHanded {} Tryz.checked os 3 .any (fun w args => (Rows.encodePutsSpec.pre enc Tryz.prog Tryz.f3 Rows.encodePutsRow.domain false w args ∧ laidMetH Tryz.prog Rows.encodePutsRow.laid w) ∧ sizedMet enc Tryz.prog Tryz.f3 (OpenSpec.ofChange Rows.encodePutsSpec) false w args)
  (Rows.encodePutsSpec.post enc Tryz.prog Tryz.f3 false true false false) := by
 refine handed_laid (C := Tryz.checked) (X := fun w _ => laidMetH Tryz.prog Rows.encodePutsRow.laid w) (fun _ _ _ hh h => h.of_heap hh) own started (by kernel_rfl) Tryz.func3
  (ChangeSpec.witness_shaped (enc := enc) (C := Tryz.checked) (os := os) (X := fun w _ => laidMetH Tryz.prog Rows.encodePutsRow.laid w) false (World.laidAll Tryz.prog os Rows.encodePutsRow.laid) #[.agg #[.slice none 0 0, .slice none 0 0], .string ⟨#[]⟩, .agg #[.slice none 0 0, .slice none 0 0]] 8 (World.laidAll_os _ _ _)
   (World.shaped_of_ZipB (by kernel_rfl) (by kernel_rfl)) (by kernel_rfl) (by kernel_rfl) (by kernel_rfl)
   (by rw [MakeChecks.laidMetH_plain _ _ _ (by kernel_rfl)]; exact laidMet_laidAll _ (by kernel_rfl) (by kernel_rfl))) ?_
 intro W base args ds gs before hval0 hW hcnd hsz0 hL hsh _
 have env0 := env_of0 hL hsh
 have env1 := env_of1 hL hsh
 have hsz : (DataW.weightsEach Tryz.prog (Tryz.f3.params.toList ++ Rows.encodePutsSpec.plain.varTypes Tryz.prog) (ds ++ gs)).all (· ≤ reachBytes) = true := hsz0
 have hval : ∀ (j : Nat) t v, Tryz.f3.params[j]? = some t → args[j]? = some v → Value.okWide Tryz.prog W .any base t v := hval0
 have hW' := hW
 obtain ⟨p, q, hA0, hV, rfl, hfz, hnd⟩ := hW
 have hA : DataW.TrodAll enc Tryz.prog W 0 (fun _ => true) true Tryz.f3.params.toList args.toList ds p := hA0
 rw [Tryz.params3] at hA hval hsz
 obtain ⟨v0, vs0, d0, ds0, p0, q0, hargs, rfl, rfl, h0, r0⟩ := trodAll_cons hA
 obtain ⟨v1, vs1, d1, ds1, p1, q1, rfl, rfl, rfl, h1, r1⟩ := trodAll_cons r0
 obtain ⟨v2, vs2, d2, ds2, p2, q2, rfl, rfl, rfl, h2, r2⟩ := trodAll_cons r1
 obtain ⟨rfl, rfl, rfl⟩ := trodAll_nil r2
 obtain rfl : args = #[v0, v1, v2] := by cases args; simp_all
 obtain ⟨rfl, rfl⟩ := trodVars_none hV
 obtain ⟨x0, rfl, xz0⟩ := agg_struct Tryz.underlying25 (hval 0 25 v0 rfl rfl)
 have k0 := h0
 have lt0 : ∀ x ∈ p0, x.block < W.heap.size := by obtain ⟨m, hm⟩ := k0; exact DataW.trod_lt m _ _ _ hm
 obtain ⟨s0, S0, hk0⟩ : ∃ s : Sc, scR (fun _ g => g < W.heap.size) W x0.toList s ∧ ScOk s := by
  obtain ⟨fuel, hf⟩ := h0
  exact sc_came _ _ _ hf (fun n hn => by have := List.all_eq_true.1 hsz n (DataW.weights_mem_each (j := 0) rfl rfl n hn); exact of_decide_eq_true this)
 obtain ⟨A0, c0, B0, e0, hx0, hE0, hM0⟩ := S0
 obtain rfl : x0 = #[.slice A0 s0.enums.length c0, .slice B0 s0.msgs.length e0] := by cases x0; simpa using hx0
 obtain ⟨s1, rfl, rfl, rfl, m1⟩ := open_string Tryz.underlying9 (hval 1 9 v1 rfl rfl) h1
 have z1 := sized_string hsz (j := 1) (t := 9) rfl rfl
 simp only [reachBytes] at z1
 obtain ⟨l1, rfl⟩ : ∃ l, s1 = strOf l := ⟨s1.data.toList, by cases s1; simp [strOf]⟩
 have y1 : l1.length ≤ 140737488351232 := by simpa [strOf] using z1
 obtain ⟨x2, rfl, xz2⟩ := agg_struct Tryz.underlying29 (hval 2 29 v2 rfl rfl)
 have k2 := h2
 have lt2 : ∀ x ∈ p2, x.block < W.heap.size := by obtain ⟨m, hm⟩ := k2; exact DataW.trod_lt m _ _ _ hm
 obtain ⟨t2, n2, A2, na2, ca2, B2, nb2, cb2, hx2, hT2, hO2⟩ : ∃ (t : Tr) (n : Nat) (A : Option Addr) (na ca : Nat) (B : Option Addr) (nb cb : Nat), x2.toList = [.slice A na ca, .slice B nb cb] ∧ TrAt (fun g => g < W.heap.size) n W A na ca B nb cb t ∧ OkT t := by
  obtain ⟨fuel, hf⟩ := h2
  exact tree_came hf (fun n hn => by have := List.all_eq_true.1 hsz n (DataW.weights_mem_each (j := 2) rfl rfl n hn); exact of_decide_eq_true this)
 obtain rfl : x2 = #[.slice A2 na2 ca2, .slice B2 nb2 cb2] := by cases x2; simpa using hx2
 clear hA0 hval0
 refine ((fun W e0 e1 => encodeputs_walk enc_ok W ⟨e0, e1⟩) W env0 env1 (show ScAt (fun _ g => g < W.heap.size) W _ _ _ _ _ _ _ from ⟨hE0, hM0, rfl, rfl⟩) hk0 l1 y1 hT2 hO2).mono fun e W' ⟨he, bel⟩ => ?_
 subst he
 exact ⟨_, rfl, _, _, _, [], _, [], hW', trodAll_mk1 (shut_bool Tryz.underlying4 _), (trodAll_cons_mk (Below.trod laidOut (by kernel_rfl) (of_decide_eq_true (by kernel_rfl)) k0 bel lt0) (trodAll_cons_mk (shut_string Tryz.underlying9 m1) (trodAll_cons_mk (Below.trod laidOut (by kernel_rfl) (of_decide_eq_true (by kernel_rfl)) k2 bel lt2) trodAll_mk0))), rfl, bel.frame _, fun h => by cases h⟩

theorem over : Rows.encodePutsRow.holds Tryz.pinned (OpenSpec.ofChange Rows.encodePutsSpec) :=
 OpenClaim.holds_of_wide 3 Tryz.f3 rfl rfl rfl rfl rfl rfl rfl ⟨rfl, rfl, rfl, rfl, rfl⟩ rfl rfl rfl rfl rfl (by kernel_rfl) Tryz.func3 (by kernel_rfl)
  (of_decide_eq_true (by kernel_rfl)) (by unfold Func.isWrapper; first | (rw [if_pos (by decide +kernel)]; kernel_rfl) | (rw [if_neg (by decide +kernel)]; exact ⟨rfl, rfl⟩))
  (fun os started H enc _ => lifted os started H enc)

/-- The statement: the card, closed by the given tie. -/
theorem proved : Rows.EncodePutsCardSaid :=
 Claim7.holds_tied_plain_at .later [] [.data, .data, .pinned] true (true, "b3b376f3113b9fd7c543852b607a1e9f508e2aef1e2fc3fd572c54c7b41ab1bd") false over (fun _ h => by cases h) (by kernel_rfl) (fun _ h => by cases h) encodePuts_row_tie rfl ⟨rfl, rfl⟩ (by kernel_rfl) rfl
  (fun f fn hf hfn => by
   obtain rfl : f = 3 := Option.some.inj ((show Tryz.prog.funcNamed "ecdysis/ecdysislaw21.EncodePuts" = some 3 by kernel_rfl).symm.trans hf) |>.symm
   obtain rfl : fn = Tryz.f3 := (Option.some.inj (Tryz.func3.symm.trans hfn)).symm
   exact ⟨by kernel_rfl, fun j t ht => by
    rw [Tryz.params3] at ht
    have hm : t ∈ [25, 9, 29] := by simpa using Array.mem_of_getElem? ht
    have hall : ([25, 9, 29].all fun u => !Tryz.prog.wantsStandIn u) = true := by kernel_rfl
    exact (show Tryz.prog.wantsStandIn t = false by simpa using List.all_eq_true.1 hall t hm)⟩)
  (by kernel_rfl)
#print axioms proved
end Go.Proofs.YtloheacncefkgaaGreatDoor.encodePuts
