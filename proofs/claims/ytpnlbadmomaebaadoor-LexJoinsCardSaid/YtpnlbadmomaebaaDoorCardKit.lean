/- For rows that list package-level variables: the wrap that hands the contract what is listed, the reach and the world's shape at once; and `LexEnv` out of these. Conditions: those that each theorem names. -/
import Derived.Test.YtpnlbadmomaebaaDoorLwE
import Derived.HandedShaped
import Derived.LaidMore
import Derived.Lay
import Derived.Stop.LaidErr
import Derived.Stop.Joined
import Derived.Lib.LaidTab
import Derived.Shelf.Vars
namespace Go.Proofs.YtpnlbadmomaebaaDoor
open Go.RowKit
set_option linter.unusedVariables false
set_option maxRecDepth 100000

/-- What the form asks of a row that lists variables, from a contract that may use all that a world which fits says. -/
theorem handed_laid {H : Type} {enc : TypeId × Value → H} {a : Assume} {C : Checked} {os : Os} {f : FuncId} {fn : Func} {s : ChangeSpec} {conds : List PathCond} {apart fresh handsOn again : Bool} {X : World → Array Value → Prop}
    (hX : ∀ (w w' : World) (args : Array Value), w.heap = w'.heap → X w args → X w' args)
    (own : ownKnob C.prog.godebug = none) (started : os.Started) (noInit : C.prog.inits.idxOf? f = none) (hfn : C.prog.funcs[f]? = some fn)
    (start : ∃ (w : World) (tape : Tape) (i : Input), w.os = os ∧ (w.forCall tape i).Shaped C.prog ∧ i.vars = [] ∧ Input.okWide C.prog (w.forCall tape i) .any w.heap.size f i ∧
      ((s.pre enc C.prog fn conds apart (w.forCall tape i).memory i.args ∧ X (w.forCall tape i).memory i.args) ∧ sizedMet enc C.prog fn (OpenSpec.ofChange s) apart (w.forCall tape i).memory i.args) ∧ a.holds C.prog (lone (Frame.enter C.prog f i.args .normal) [] (w.forCall tape i)))
    (walk : ∀ (W : World) (base : Nat) (args : Array Value) (ds gs : List (DataW H)) (before : List MemPlace),
      (∀ (j : Nat) t v, fn.params[j]? = some t → args[j]? = some v → Value.okWide C.prog W .any base t v) →
      DataW.Whole enc C.prog fn.params.toList s.vars apart W args.toList ds gs before →
      conds.all (PathCond.test C.prog ⟨fn.params.toList, ds, s.plain.varTypes C.prog, gs⟩) = true →
      (DataW.weightsEach C.prog (fn.params.toList ++ s.plain.varTypes C.prog) (ds ++ gs)).all (· ≤ reachBytes) = true → X W args → W.ShapedOpen C.prog →
      a.holds C.prog (lone (Frame.enter C.prog f args .normal) [] W) →
      Calls C.prog f args W fun e W' => ∃ v, e = .returned v ∧ s.post enc C.prog fn apart fresh handsOn again W args v W') :
    ReturnsInHanded a C os f .any (fun w args => (s.pre enc C.prog fn conds apart w args ∧ X w args) ∧ sizedMet enc C.prog fn (OpenSpec.ofChange s) apart w args) (s.post enc C.prog fn apart fresh handsOn again) := by
  refine returnsInHanded_of_calls own started noInit start (fun w tape i _ shape _ fits pre asked => ?_)
  obtain ⟨_, _, _, fn', hfn', _, _, _, _, vals⟩ := fits
  cases hfn.symm.trans hfn'
  obtain ⟨⟨⟨ds, gs, before, whole, cond⟩, x⟩, size⟩ := pre
  refine Calls.mono (walk (w.forCall tape i) w.heap.size i.args ds gs before vals (DataW.Whole.of_heap (w' := w.forCall tape i) (by rfl) whole) cond (size.weights whole) (hX _ (w.forCall tape i) _ (by rfl) x) shape asked) ?_
  rintro e W' ⟨v, rfl, post⟩
  exact ChangeSpec.post_blind post

theorem ge_syn : (Tryd.prog.globals[4]?).map (·.type) = some 62 := by kernel_rfl
theorem ge_rng : (Tryd.prog.globals[5]?).map (·.type) = some 62 := by kernel_rfl
theorem ge_tab : (Tryd.prog.globals[0]?).map (·.type) = some 87 := by kernel_rfl
theorem ce_es : Tryd.prog.cellsOf 116 = 1 := by kernel_rfl
theorem ce_st : Tryd.prog.cellsOf 9 = 1 := by kernel_rfl
theorem ce_u64 : Tryd.prog.cellsOf 33 = 1 := by kernel_rfl
theorem ce_tab : Tryd.prog.cellsOf 87 = 20 := by kernel_rfl
theorem es_star : "*" ++ "errors.errorString" = "*errors.errorString" := by decide
theorem es_row (u : TypeId) (h : Tryd.prog.typeName? 3 u = some "*errors.errorString") : u = 114 :=
  typeName_ptr_named (nm := "errors.errorString") (by rw [es_star]; kernel_rfl) (by kernel_rfl) (by decide) u (by rw [es_star]; exact h)
/-- The environment, from the three listed variables wherever they stand on the list, and the world's shape. -/
theorem env_made {W : World} {r1 r2 r3 : List (String × DataW Unit)} {t1 t2 : List UInt8}
    (h1 : laidMet Tryd.prog (("internal/strconv.uint64pow10", Lib.tabData .u64 Lib.pow10Tab) :: r1) W)
    (h2 : laidMet Tryd.prog (("strconv.ErrSyntax", .iface "*errors.errorString" (.ptr (.agg [.lit (.string t1)]))) :: r2) W)
    (h3 : laidMet Tryd.prog (("strconv.ErrRange", .iface "*errors.errorString" (.ptr (.agg [.lit (.string t2)]))) :: r3) W)
    (hsh : W.ShapedOpen Tryd.prog) : LexEnv W := by
  obtain ⟨a1, _, v1, _, _, _⟩ := laid_sentinel h2 gv_syn ge_syn Tryd.underlying62 es_row Tryd.underlying114 Tryd.underlying116 rfl rfl Tryd.underlying9 ce_es ce_st
  obtain ⟨a2, _, v2, _, _, _⟩ := laid_sentinel h3 gv_rng ge_rng Tryd.underlying62 es_row Tryd.underlying114 Tryd.underlying116 rfl rfl Tryd.underlying9 ce_es ce_st
  exact ⟨Lib.tabIs_of_head gv_tab ge_tab Tryd.underlying87 Tryd.underlying33 ce_u64 ce_tab h1, ⟨_, _, v1⟩, ⟨_, _, v2⟩,
    cell_of_shapedOpen_int (P := Tryd.prog) (g := 1) (t := 3) (zero := #[.int .i64 0]) hsh (of_decide_eq_true (by kernel_rfl)) (by kernel_rfl) rfl (by kernel_rfl) (by kernel_rfl) Tryd.underlying3⟩
end Go.Proofs.YtpnlbadmomaebaaDoor
