/- Several texts in one: SlApp, TagR, TagF, TagRF. What each proves, and its conditions, stands at its own head. -/
import Derived.Test.YtjogamffdbedkaaGreatDoorChecked
import Derived.Test.YtjogamffdbedkaaGreatDoorPkA0
import Derived.WalkKit
import Derived.RowKitTokens
import Derived.OwnWalk
import Derived.Lib.Hide
/- append onto a row of texts of the call's own: whatever list of texts. Conditions: those that each theorem names. -/
namespace Go.Proofs.YtjogamffdbedkaaGreatDoor
open Go.RowKit
set_option linter.unusedVariables false

theorem info_str : (Tryz.prog.info? 9).map (fun i => (i.zero, i.size, i.bytes)) = some (some (.string ByteArray.empty), 1, 16) := by kernel_rfl
theorem info_str_parts : ∃ i, Tryz.prog.info? 9 = some i ∧ i.zero = some (.string ByteArray.empty) ∧ i.size = 1 ∧ i.bytes = 16 := by
  have h := info_str
  cases hi : Tryz.prog.info? 9 with
  | none => rw [hi] at h; simp at h
  | some i =>
    rw [hi] at h
    simp only [Option.map_some, Option.some.injEq, Prod.mk.injEq] at h
    exact ⟨i, rfl, h.1, h.2.1, h.2.2⟩
theorem txts_append (a b : List (List UInt8)) : txts (a ++ b) = txts a ++ txts b := by simp [txts]
theorem txts_one (ts : List (List UInt8)) : ∀ u ∈ txts ts, u.oneCell' = true := by
  intro u hu
  obtain ⟨_, _, rfl⟩ := List.mem_map.1 hu
  rfl
theorem own0_str (w : World) : (w.alloc (.cells #[] 9)).ownsRow w.heap.size 9 1 (.slice (some ⟨w.heap.size, 0, none⟩) 0 0) 0 (txts []) :=
  World.ownsRow_made w #[] 0 (Nat.le_refl _) (by decide) rfl
theorem wpList_append_sl {w : World} {ops : Array Oper} {rest : List Oper} {o : Oper} {a : Act} {Q : Exit → Act → World → Prop} (hgd : o.guard = none) (s x : Operand)
    (ho : o.op = .call { callee := .builtin .append, args := #[s, x], argTypes := #[68, 68] })
    (base : Nat) (v : Value) (n : Nat) (pre : List (List UInt8)) (hs : a.eval s = v) (hown : w.ownsRow base 9 1 v n (txts pre))
    (A : Option Addr) (m c : Nat) (bs : List (List UInt8)) (hx : a.eval x = .slice A m c) (hm : m = bs.length) (hb : Sl w A c (txts bs))
    (h47 : pre.length + bs.length ≤ 1000000) (hbase : base ≤ w.heap.size)
    (h : ∀ v' w', w'.ownsRow base 9 1 v' (pre.length + bs.length) (txts (pre ++ bs)) → w.grownBy w' v.ownBlock → wpList Tryz.prog ops Q rest (a.put o.dst v') w') : wpList Tryz.prog ops Q (o :: rest) a w := by
  obtain ⟨i, hi, hz, hsize, hby⟩ := info_str_parts
  subst hm
  obtain ⟨hn, _⟩ := Sl.own hown
  rw [txts_length] at hn
  subst hn
  rcases A with _ | ad
  · have h0 := hb.nil rfl
    have hle := hb.le
    rw [txts_length] at hle
    have hbs : bs = [] := List.eq_nil_of_length_eq_zero (by omega)
    subst hbs h0
    refine wpList_plain hgd fun K hK' => ?_
    have hrun := run_append_owned_none (P := Tryz.prog) w base 68 o.type 9 i 1 Tryz.underlying68 hi v pre.length (txts pre) hown
    unfold Oper.wp
    simp [execOp, ho, resolve, invoke, builtin, hs, hx, hrun, Result.andThen]
    exact hK' _ _ (h v w (by simpa using hown) (World.grownBy.refl _ _))
  · exact wpList_append_own w hgd s x 68 ho base 9 i (.string ByteArray.empty) 1 16 Tryz.underlying68 hi hz hsize hby rfl (by decide) v pre.length (txts pre) hs hown ad bs.length c (txts bs) hx
      (by rw [txts_length]; omega) (fun j u hu => by
        obtain ⟨bl, off, ea, hcell⟩ := hb.at_ j u hu
        cases ea
        have hplain : (⟨bl, off, none⟩ : Addr).add j = ⟨bl, off + j, none⟩ := by unfold Addr.add; split <;> simp_all
        rw [hplain]; exact hcell) (txts_one bs) (by unfold maxLen; omega) (by omega) hbase (fun v' w' h1 h2 _ => h v' w' (by rw [txts_append]; exact h1) h2)
end Go.Proofs.YtjogamffdbedkaaGreatDoor

/- tag.Right: what it returns, for every input; the world is as it was. -/
namespace Go.Proofs.YtjogamffdbedkaaGreatDoor
open Go.RowKit
set_option linter.unusedVariables false
set_option maxRecDepth 100000

theorem numbered_any (n : Int) (w : World) :
    Calls Tryz.prog 132 #[.int .i64 n] w fun e w' => e = .returned (.bool (numOk n)) ∧ w = w' := by
  by_cases h1 : 1 ≤ n
  · have HF : Hid (decide (n ≤ 536870911) = numOk n) := by show _ = _; simp [numOk, h1]
    have g1 : decide (1 ≤ n) = true := decide_eq_true h1
    go_enter Tryz.func132, Tryz.ntmps132
    go_wp2
    go_ret
    exact ⟨ret_bool' HF.out, rfl⟩
  · have HF : Hid (false = numOk n) := by show _ = _; simp [numOk, h1]
    have g1 : decide (1 ≤ n) = false := decide_eq_false h1
    go_enter Tryz.func132, Tryz.ntmps132
    go_wp2
    go_ret
    exact ⟨ret_bool' HF.out, rfl⟩
end Go.Proofs.YtjogamffdbedkaaGreatDoor

/- tag.Field: what it returns, for every input; the world is as it was. -/
namespace Go.Proofs.YtjogamffdbedkaaGreatDoor
open Go.RowKit
set_option linter.unusedVariables false
set_option maxRecDepth 100000

theorem field_any (n : Int) (w : World) :
    Calls Tryz.prog 97 #[.int .i64 n] w fun e w' => e = .returned (.bool (fieldB n)) ∧ w = w' := by
  have H1 := Lib.hid (fun w => numbered_any n w)
  have HF : Hid (fieldB n = (numOk n && (decide (n < 19000) || decide (19999 < n)))) := by show _ = _; simp [fieldB]
  generalize fieldB n = r at *
  generalize numOk n = p at *
  cases p <;> cases e1 : decide (n < 19000)
  all_goals
    rw [e1] at HF
    go_enter Tryz.func97, Tryz.ntmps97
    go_wp2_with (refine (H1.out _).mono ?_; rintro e w' ⟨rfl, rfl⟩)
    go_ret
    exact ⟨ret_bool' (by rw [HF.out]; rfl), rfl⟩

end Go.Proofs.YtjogamffdbedkaaGreatDoor

/- The document's Field: what it returns, for every input; the world is as it was. -/
namespace Go.Proofs.YtjogamffdbedkaaGreatDoor
open Go.RowKit
set_option linter.unusedVariables false
set_option maxRecDepth 100000

theorem rtagfield_any (n : Int) (w : World) :
    Calls Tryz.prog 63 #[.int .i64 n] w fun e w' => e = .returned (.bool (fieldB n)) ∧ w = w' := by
  have HF : Hid (fieldB n = ((decide (1 ≤ n) && decide (n ≤ 536870911)) && (decide (n < 19000) || decide (19999 < n)))) := by show _ = _; simp [fieldB, numOk]
  generalize fieldB n = r at *
  cases e0 : decide (1 ≤ n) <;> cases e2 : decide (n ≤ 536870911) <;> cases e1 : decide (n < 19000)
  all_goals
    rw [e0, e1, e2] at HF
    go_enter Tryz.func63, Tryz.ntmps63
    go_wp2
    go_ret
    exact ⟨ret_bool' (by rw [HF.out]; rfl), rfl⟩

end Go.Proofs.YtjogamffdbedkaaGreatDoor
