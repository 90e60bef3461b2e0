/- append onto an own row of bytes, as a step of a region that draws its order: bytes, a text. Conditions: those that each theorem names. -/
import Derived.Test.YtfmhpicnajeflaaGives
import Derived.Deep.AppendLies
import Derived.Lib.AppendStr
namespace Go.Proofs.Ytfmhpicnajeflaa
open Go.RowKit
set_option linter.unusedVariables false
set_option maxRecDepth 100000

theorem strCells_strOf (t : List UInt8) : Lib.strCells (strOf t) = cellsOf t := by
  simp [Lib.strCells, strOf, cellsOf]
theorem run_append_bs {w : World} {base n : Nat} {v : Value} {pre bs : List UInt8} {A : Option Addr} {m c : Nat} (ty : TypeId) (hown : w.ownsRow base 5 1 v n (cellsOf pre)) (hb : Bs w A c bs) (hm : m = bs.length)
    (h47 : pre.length + bs.length ≤ 140737488355328) (hbase : base ≤ w.heap.size) :
    ∃ v' w', (Builtin.append_ #[22, 22] ty #[v, .slice A m c]).run Try.prog w = .ok v' w' ∧ w'.ownsRow base 5 1 v' (pre.length + bs.length) (cellsOf (pre ++ bs)) ∧ w.grownBy w' v.ownBlock := by
  subst hm
  obtain ⟨i, hi, hz0, hz1, hz2⟩ := info_parts info_u8
  obtain ⟨hn, _⟩ := Bs.own hown
  subst hn
  rcases A with _ | ad
  · have h0 := hb.nil rfl
    have hle := hb.le
    have hbs : bs = [] := List.eq_nil_of_length_eq_zero (by omega)
    subst hbs h0
    exact ⟨v, w, run_append_owned_none w base 22 ty 5 i 1 Try.underlying22 hi v pre.length (cellsOf pre) hown, by simpa using hown, World.grownBy.refl _ _⟩
  · obtain ⟨v', w', hr, h1, h2, _⟩ := run_append_own w base 22 ty 5 i (.int .u8 0) 1 1 Try.underlying22 hi hz0 hz1 hz2 rfl (by decide) v pre.length (cellsOf pre) hown ad bs.length c (cellsOf bs)
      (by rw [cellsOf_length]; omega) (fun j u hu => by
        obtain ⟨b, hbj, rfl⟩ := cellsOf_get hu
        obtain ⟨bl, off, ea, hcell⟩ := hb.at_ j b hbj
        cases ea
        have hplain : (⟨bl, off, none⟩ : Addr).add j = ⟨bl, off + j, none⟩ := by unfold Addr.add; split <;> simp_all
        rw [hplain]; exact hcell) (cellsOf_one bs) (by unfold maxLen; omega) (by omega) hbase
    exact ⟨v', w', hr, by rw [cellsOf_append]; exact h1, h2⟩
theorem step_append_bs {ops : Array Oper} {o : Oper} {a : Act} {w : World} {K : Act → World → Prop} {Q : Exit → Act → World → Prop} {E : Prop} (hgd : o.guard = none) (s x : Operand)
    (ho : o.op = .call { callee := .builtin .append, args := #[s, x], argTypes := #[22, 22] }) {base n m c : Nat} {v : Value} {pre bs : List UInt8} {A : Option Addr}
    (hs : a.eval s = v) (hown : w.ownsRow base 5 1 v n (cellsOf pre)) (hx : a.eval x = .slice A m c) (hb : Bs w A c bs) (hm : m = bs.length) (h47 : pre.length + bs.length ≤ 140737488355328) (hbase : base ≤ w.heap.size)
    (hK : ∀ v' w', w'.ownsRow base 5 1 v' (pre.length + bs.length) (cellsOf (pre ++ bs)) → w.grownBy w' v.ownBlock → K (a.put o.dst v') w') :
    if Region.wanted o (yielded ops a.tmps) = true then Oper.wp Try.prog o a w K Q else E := by
  have hw : Region.wanted o (yielded ops a.tmps) = true := by simp [Region.wanted, hgd]
  rw [if_pos hw]
  obtain ⟨v', w', hr, h1, h2⟩ := run_append_bs o.type hown hb hm h47 hbase
  unfold Oper.wp execOp
  simp only [ho, resolve, invoke, builtin, Sem.run_bind, Sem.run_pure, Result.andThen_ok, List.map_toArray, List.map_cons, List.map_nil, hs, hx, hr]
  exact hK v' w' h1 h2
theorem step_append_str {ops : Array Oper} {o : Oper} {a : Act} {w : World} {K : Act → World → Prop} {Q : Exit → Act → World → Prop} {E : Prop} (hgd : o.guard = none) (s x : Operand)
    (ho : o.op = .call { callee := .builtin .append, args := #[s, x], argTypes := #[22, 9] }) {base n : Nat} {v : Value} {pre t : List UInt8}
    (hs : a.eval s = v) (hown : w.ownsRow base 5 1 v n (cellsOf pre)) (hx : a.eval x = .string (strOf t)) (h47 : pre.length + t.length ≤ 140737488355328) (hbase : base ≤ w.heap.size)
    (hK : ∀ v' w', w'.ownsRow base 5 1 v' (pre.length + t.length) (cellsOf (pre ++ t)) → w.grownBy w' v.ownBlock → K (a.put o.dst v') w') :
    if Region.wanted o (yielded ops a.tmps) = true then Oper.wp Try.prog o a w K Q else E := by
  have hw : Region.wanted o (yielded ops a.tmps) = true := by simp [Region.wanted, hgd]
  rw [if_pos hw]
  obtain ⟨i, hi, hz0, hz1, hz2⟩ := info_parts info_u8
  obtain ⟨hn, _⟩ := Bs.own hown
  subst hn
  have hsz : (strOf t).size = t.length := by simp [strOf, ByteArray.size]
  obtain ⟨v', w', hr, h1, h2, _⟩ := Lib.run_append_own_string (P := Try.prog) (w := w) base 22 9 o.type 5 i Try.underlying22 Try.underlying9 hi hz0 hz1 hz2 v pre.length (cellsOf pre) hown (strOf t) (by rw [hsz]; unfold maxLen; omega) (by rw [hsz]; omega) hbase
  rw [hsz, strCells_strOf] at h1
  unfold Oper.wp execOp
  simp only [ho, resolve, invoke, builtin, Sem.run_bind, Sem.run_pure, Result.andThen_ok, List.map_toArray, List.map_cons, List.map_nil, hs, hx, hr]
  exact hK v' w' (by rw [cellsOf_append]; exact h1) h2
end Go.Proofs.Ytfmhpicnajeflaa
