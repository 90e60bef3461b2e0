/- append onto a row of texts of the call's own: whatever list of texts. Conditions: those that each theorem names. -/
import Derived.Test.YtoagamdhfaebgaaGives
import Derived.Test.YtoagamdhfaebgaaStrs
namespace Go.Proofs.Ytoagamdhfaebgaa
open Go.RowKit
set_option linter.unusedVariables false

theorem info_str : (Try.prog.info? 9).map (fun i => (i.zero, i.size, i.bytes)) = some (some (.string ByteArray.empty), 1, 16) := by kernel_rfl
theorem info_str_parts : ∃ i, Try.prog.info? 9 = some i ∧ i.zero = some (.string ByteArray.empty) ∧ i.size = 1 ∧ i.bytes = 16 := by
  have h := info_str
  cases hi : Try.prog.info? 9 with
  | none => rw [hi] at h; simp at h
  | some i =>
    rw [hi] at h
    simp only [Option.map_some, Option.some.injEq, Prod.mk.injEq] at h
    exact ⟨i, rfl, h.1, h.2.1, h.2.2⟩
theorem txts_append (a b : List (List UInt8)) : txts (a ++ b) = txts a ++ txts b := by simp [txts]
theorem txts_one (ts : List (List UInt8)) : ∀ u ∈ txts ts, u.oneCell' = true := by
  intro u hu
  obtain ⟨_, _, rfl⟩ := List.mem_map.1 hu
  rfl
theorem own0_str (w : World) : (w.alloc (.cells #[] 9)).ownsRow w.heap.size 9 1 (.slice (some ⟨w.heap.size, 0, none⟩) 0 0) 0 (txts []) :=
  World.ownsRow_made w #[] 0 (Nat.le_refl _) (by decide) rfl
theorem wpList_append_sl {w : World} {ops : Array Oper} {rest : List Oper} {o : Oper} {a : Act} {Q : Exit → Act → World → Prop} (hgd : o.guard = none) (s x : Operand)
    (ho : o.op = .call { callee := .builtin .append, args := #[s, x], argTypes := #[24, 24] })
    (base : Nat) (v : Value) (n : Nat) (pre : List (List UInt8)) (hs : a.eval s = v) (hown : w.ownsRow base 9 1 v n (txts pre))
    (A : Option Addr) (m c : Nat) (bs : List (List UInt8)) (hx : a.eval x = .slice A m c) (hm : m = bs.length) (hb : Sl w A c (txts bs))
    (h47 : pre.length + bs.length ≤ 1000000) (hbase : base ≤ w.heap.size)
    (h : ∀ v' w', w'.ownsRow base 9 1 v' (pre.length + bs.length) (txts (pre ++ bs)) → w.grownBy w' v.ownBlock → wpList Try.prog ops Q rest (a.put o.dst v') w') : wpList Try.prog ops Q (o :: rest) a w := by
  obtain ⟨i, hi, hz, hsize, hby⟩ := info_str_parts
  subst hm
  obtain ⟨hn, _⟩ := Sl.own hown
  rw [txts_length] at hn
  subst hn
  rcases A with _ | ad
  · have h0 := hb.nil rfl
    have hle := hb.le
    rw [txts_length] at hle
    have hbs : bs = [] := List.eq_nil_of_length_eq_zero (by omega)
    subst hbs h0
    refine wpList_plain hgd fun K hK' => ?_
    have hrun := run_append_owned_none (P := Try.prog) w base 24 o.type 9 i 1 Try.underlying24 hi v pre.length (txts pre) hown
    unfold Oper.wp
    simp [execOp, ho, resolve, invoke, builtin, hs, hx, hrun, Result.andThen]
    exact hK' _ _ (h v w (by simpa using hown) (World.grownBy.refl _ _))
  · exact wpList_append_own w hgd s x 24 ho base 9 i (.string ByteArray.empty) 1 16 Try.underlying24 hi hz hsize hby rfl (by decide) v pre.length (txts pre) hs hown ad bs.length c (txts bs) hx
      (by rw [txts_length]; omega) (fun j u hu => by
        obtain ⟨bl, off, ea, hcell⟩ := hb.at_ j u hu
        cases ea
        have hplain : (⟨bl, off, none⟩ : Addr).add j = ⟨bl, off + j, none⟩ := by unfold Addr.add; split <;> simp_all
        rw [hplain]; exact hcell) (txts_one bs) (by unfold maxLen; omega) (by omega) hbase (fun v' w' h1 h2 _ => h v' w' (by rw [txts_append]; exact h1) h2)
end Go.Proofs.Ytoagamdhfaebgaa
