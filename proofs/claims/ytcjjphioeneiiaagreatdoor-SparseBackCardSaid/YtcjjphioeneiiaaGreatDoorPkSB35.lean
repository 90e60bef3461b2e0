/- Several texts in one: SqPut. What each proves, and its conditions, stands at its own head. -/
import Derived.Test.YtcjjphioeneiiaaGreatDoorPkSB17
import Derived.Test.YtcjjphioeneiiaaGreatDoorPkSB6
import Derived.Test.YtcjjphioeneiiaaGreatDoorPkSB26
/- A thing put in at a place: the three appends of one statement, each at whatever world behind the statement's first. Conditions: those that each theorem names. -/
namespace Go.Proofs.YtcjjphioeneiiaaGreatDoor
open Go.RowKit
set_option linter.unusedVariables false
set_option maxRecDepth 100000

/-- What a type of elements is. -/
structure ElT (t e : TypeId) (k bytes : Nat) : Prop where
 e_t : Tryz.prog.underlying t = some (.slice e)
 e_i : ∃ i z, Tryz.prog.info? e = some i ∧ i.zero = some z ∧ i.size = k ∧ i.bytes = bytes ∧ z.cells.size = k
 e_k : 0 < k
 e_b : bytes ≤ 1000
theorem elT_of {t e : TypeId} {k bytes : Nat} {z : Value} (h1 : Tryz.prog.underlying t = some (.slice e)) (h2 : (Tryz.prog.info? e).map (fun i => (i.zero, i.size, i.bytes)) = some (some z, k, bytes)) (h3 : z.cells.size = k) (h4 : 0 < k) (h5 : bytes ≤ 1000) : ElT t e k bytes := by
 obtain ⟨i, a1, a2, a3, a4⟩ := info_parts h2
 exact ⟨h1, ⟨i, z, a1, a2, a3, a4, h3⟩, h4, h5⟩
theorem el_vl : ElT 45 67 2 24 := elT_of Tryz.underlying45 (z := .agg #[.string ⟨#[]⟩, .int .i64 0]) (by kernel_rfl) rfl (by decide) (by decide)
theorem el_fd : ElT 40 70 7 72 := elT_of Tryz.underlying40 (z := .agg #[.string ⟨#[]⟩, .int .i64 0, .int .i64 0, .string ⟨#[]⟩, .bool false, .bool false, .string ⟨#[]⟩]) (by kernel_rfl) rfl (by decide) (by decide)
theorem el_in : ElT 41 3 1 8 := elT_of Tryz.underlying41 (z := .int .i64 0) (by kernel_rfl) rfl (by decide) (by decide)
theorem el_en : ElT 23 47 2 40 := elT_of Tryz.underlying23 (z := .agg #[.string ⟨#[]⟩, .slice none 0 0]) (by kernel_rfl) rfl (by decide) (by decide)
theorem el_ms : ElT 24 43 3 64 := elT_of Tryz.underlying24 (z := .agg #[.string ⟨#[]⟩, .slice none 0 0, .slice none 0 0]) (by kernel_rfl) rfl (by decide) (by decide)
section
variable {W U : World} {t e : TypeId} {k bytes n : Nat} {S : Nat → Prop} {A : Option Addr} {cap : Nat} {L : List (Cel k)} {c : Cel k} {v : Value} {xs : List Value}
end
theorem insT_put {α : Type} (gt : α → α → Bool) (out : List α) (x : α) : insT gt out x = putAt out (backT (fun y => gt y x) out out.length) x := rfl
theorem back_le {α : Type} (gt : α → Bool) (out : List α) : ∀ k, backT gt out k ≤ k
 | 0 => Nat.le_refl _
 | k + 1 => by
   rw [backT]
   split
   ·split
    ·have := back_le gt out k; omega
    ·exact Nat.le_refl _
   ·exact Nat.le_refl _
theorem sort_len {α : Type} (gt : α → α → Bool) : ∀ (l acc : List α), (l.foldl (insT gt) acc).length = acc.length + l.length
 | [], acc => rfl
 | x :: l, acc => by
   rw [List.foldl_cons, sort_len gt l, insT_put, putAt_len (back_le _ _ _), List.length_cons]
   omega
theorem sort_take_len {α : Type} (gt : α → α → Bool) (l : List α) (k : Nat) (hk : k ≤ l.length) : (sortT gt (l.take k)).length = k := by
 unfold sortT
 rw [sort_len, List.length_take]
 simp
 omega
end Go.Proofs.YtcjjphioeneiiaaGreatDoor
