/- Layer 8 in plain words (no program here): a byte's two digits of base 16, and back. -/
import Derived.RowKit
namespace Go.Proofs.Ytfmhpicnajeflaa
set_option linter.unusedVariables false

def dg (n : Nat) : UInt8 := if n < 10 then (48 + n).toUInt8 else (87 + n).toUInt8
theorem dg_nat {n : Nat} (h : n < 16) : (dg n).toNat = if n < 10 then 48 + n else 87 + n := by
  unfold dg
  split <;> simp <;> omega
def hexOf : List UInt8 → List UInt8
  | [] => []
  | c :: r => dg (c.toNat / 16) :: dg (c.toNat % 16) :: hexOf r
theorem hexOf_append : ∀ a b, hexOf (a ++ b) = hexOf a ++ hexOf b
  | [], b => rfl
  | c :: a, b => by rw [List.cons_append, hexOf, hexOf_append a b, hexOf]; rfl
theorem hexOf_length : ∀ bs, (hexOf bs).length = 2 * bs.length
  | [] => rfl
  | c :: r => by rw [hexOf, List.length_cons, List.length_cons, hexOf_length r, List.length_cons]; omega
theorem hexOf_take {bs : List UInt8} {k : Nat} {c : UInt8} (h : bs[k]? = some c) : hexOf (bs.take (k + 1)) = hexOf (bs.take k) ++ [dg (c.toNat / 16), dg (c.toNat % 16)] := by
  rw [List.take_add_one, h]
  show hexOf (bs.take k ++ [c]) = _
  rw [hexOf_append]
  rfl
/-- A digit's number; -1: it is none. -/
def dv (c : UInt8) : Int := if 48 ≤ c.toNat ∧ c.toNat ≤ 57 then (c.toNat : Int) - 48 else if 97 ≤ c.toNat ∧ c.toNat ≤ 102 then (c.toNat : Int) - 87 else -1
theorem dv_lt (c : UInt8) : -1 ≤ dv c ∧ dv c < 16 := by
  unfold dv
  split
  · omega
  · split <;> omega
theorem dv_dg {n : Nat} (h : n < 16) : dv (dg n) = (n : Int) := by
  have := dg_nat h
  unfold dv
  rw [this]
  by_cases h10 : n < 10
  · rw [if_pos h10, if_pos (by omega)]; omega
  · rw [if_neg h10, if_neg (by omega), if_pos (by omega)]; omega
theorem dg_dv {c : UInt8} (h : 0 ≤ dv c) : dg (dv c).toNat = c := by
  apply UInt8.toNat_inj.mp
  have h16 := dv_lt c
  rw [dg_nat (by omega)]
  unfold dv at h h16 ⊢
  split
  · split <;> omega
  · split
    · split <;> omega
    · rename_i h1 h2
      rw [if_neg h1, if_neg h2] at h
      omega
def byteOf (a b : UInt8) : UInt8 := (16 * dv a + dv b).toNat.toUInt8
def unhex : List UInt8 → Option (List UInt8)
  | [] => some []
  | [_] => none
  | a :: b :: r => if dv a < 0 ∨ dv b < 0 then none else (unhex r).map (byteOf a b :: ·)
theorem byteOf_dg (c : UInt8) : byteOf (dg (c.toNat / 16)) (dg (c.toNat % 16)) = c := by
  have hc := c.toNat_lt
  unfold byteOf
  rw [dv_dg (by omega), dv_dg (by omega)]
  apply UInt8.toNat_inj.mp
  simp
  omega
theorem unhex_hexOf : ∀ bs, unhex (hexOf bs) = some bs
  | [] => rfl
  | c :: r => by
    have hc := c.toNat_lt
    rw [hexOf, unhex, if_neg (by rw [dv_dg (by omega), dv_dg (by omega)]; omega), unhex_hexOf r, byteOf_dg]
    rfl
/-- What is read is what it is of. -/
theorem unhex_some : ∀ (t bs : List UInt8), unhex t = some bs → hexOf bs = t
  | [], bs, h => by cases h; rfl
  | [_], bs, h => by cases h
  | a :: b :: r, bs, h => by
    rw [unhex] at h
    split at h
    · cases h
    · rename_i hn
      obtain ⟨x, hx, rfl⟩ := Option.map_eq_some_iff.mp h
      have ha : 0 ≤ dv a := by omega
      have hb : 0 ≤ dv b := by omega
      have h1 := dv_lt a
      have h2 := dv_lt b
      have hbn : (byteOf a b).toNat = (16 * dv a + dv b).toNat := by
        unfold byteOf
        simp
        omega
      rw [hexOf, unhex_some r x hx, hbn, show (16 * dv a + dv b).toNat / 16 = (dv a).toNat by omega, show (16 * dv a + dv b).toNat % 16 = (dv b).toNat by omega, dg_dv ha, dg_dv hb]
theorem unhex_odd : ∀ t : List UInt8, t.length % 2 = 1 → unhex t = none
  | [], h => by simp at h
  | [_], _ => rfl
  | a :: b :: r, h => by
    rw [unhex, unhex_odd r (by simp at h; omega)]
    split <;> rfl
/-- Halfway: what was read, and what is left. -/
theorem unhex_step {t rest : List UInt8} {acc : List UInt8} {a b : UInt8} (h : unhex t = (unhex (a :: b :: rest)).map (acc ++ ·)) (ha : 0 ≤ dv a) (hb : 0 ≤ dv b) : unhex t = (unhex rest).map ((acc ++ [byteOf a b]) ++ ·) := by
  rw [h, unhex, if_neg (by omega)]
  cases unhex rest <;> simp
theorem unhex_fail {t rest : List UInt8} {acc : List UInt8} {a b : UInt8} (h : unhex t = (unhex (a :: b :: rest)).map (acc ++ ·)) (hn : dv a < 0 ∨ dv b < 0) : unhex t = none := by
  rw [h, unhex, if_pos hn]; rfl
theorem unhex_done {t acc : List UInt8} (h : unhex t = (unhex []).map (acc ++ ·)) : unhex t = some acc := by
  rw [h]; simp [unhex]
end Go.Proofs.Ytfmhpicnajeflaa
