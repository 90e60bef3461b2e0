/- Several texts in one: RdT, RuB, RuD, RuE. What each proves, and its conditions, stands at its own head. -/
import Derived.Test.YtloheacncefkgaaGreatDoorPkET41
import Derived.Test.YtloheacncefkgaaGreatDoorPkET27
import Derived.Test.YtloheacncefkgaaGreatDoorPkET24
import Derived.Test.YtloheacncefkgaaGreatDoorPkET0
import Derived.Test.YtloheacncefkgaaGreatDoorPkET20
import Derived.Test.YtloheacncefkgaaGreatDoorPkET5
import Derived.Deep.RegionHeld3
import Derived.Test.YtloheacncefkgaaGreatDoorPkET14
import Derived.Test.YtloheacncefkgaaGreatDoorPkET30
import Derived.Test.YtloheacncefkgaaGreatDoorChecked
import Derived.WalkKit
import Derived.OwnWalk
import Derived.RowKitTokens
import Derived.Lib.Hide
import Derived.BigQuiet
import Derived.Deep.QuietTactic
import Derived.Test.YtloheacncefkgaaGreatDoorPkET35
import Derived.Test.YtloheacncefkgaaGreatDoorPkET31
import Derived.Test.YtloheacncefkgaaGreatDoorPkET37
import Derived.Test.YtloheacncefkgaaGreatDoorPkET3
import Derived.Test.YtloheacncefkgaaGreatDoorPkET19
/- The document's layer 20: which trees are a message's values. Conditions: those that each theorem names. -/
namespace Go.Proofs.YtloheacncefkgaaGreatDoor
open Go.RowKit
set_option linter.unusedVariables false
set_option maxRecDepth 100000

/-- The boxes of a call of the document's Tree. -/
structure RtW (w : World) (mb : Nat) (SCH TRE MSG : Array Value) (u : World) : Prop where
  t_bel : Below w.heap.size w u
  t_s : u.heap[w.heap.size]? = some (.cells SCH 25 (0, 0))
  t_x : u.heap[w.heap.size + 1]? = some (.cells TRE 29 (0, 0))
  t_m : u.heap[mb]? = some (.cells MSG 57 (0, 0))
section
variable {w u u' : World} {mb : Nat} {SCH TRE MSG : Array Value}
theorem RtW.goes (h : RtW w mb SCH TRE MSG u) (hb : Below u.heap.size u u') : RtW w mb SCH TRE MSG u' :=
  ⟨vbel h.t_bel hb, (hb.block _ (lt_of_block h.t_s)).trans h.t_s, (hb.block _ (lt_of_block h.t_x)).trans h.t_x, (hb.block _ (lt_of_block h.t_m)).trans h.t_m⟩
theorem RtW.cells {A A2 B B2 A1 A3 : Option Addr} {ne ca nm ca2 na cb nr cr nf c1 nb c3 : Nat} {sn : ByteArray} (h : RtW w mb #[.slice A ne ca, .slice A2 nm ca2] #[.slice B na cb, .slice B2 nr cr] #[.string sn, .slice A1 nf c1, .slice A3 nb c3] u) : (u.cell? ⟨w.heap.size, 0, none⟩ = some (.slice A ne ca) ∧ u.cell? ⟨w.heap.size, 1, none⟩ = some (.slice A2 nm ca2)) ∧ (u.cell? ⟨w.heap.size + 1, 0, none⟩ = some (.slice B na cb) ∧ u.cell? ⟨w.heap.size + 1, 1, none⟩ = some (.slice B2 nr cr)) ∧ (u.cell? ⟨mb, 0, none⟩ = some (.string sn) ∧ u.cell? ⟨mb, 1, none⟩ = some (.slice A1 nf c1) ∧ u.cell? ⟨mb, 2, none⟩ = some (.slice A3 nb c3)) :=
  ⟨⟨obj_cell h.t_s 0, obj_cell h.t_s 1⟩, ⟨obj_cell h.t_x 0, obj_cell h.t_x 1⟩, obj_cell h.t_m 0, obj_cell h.t_m 1, obj_cell h.t_m 2⟩
end

end Go.Proofs.YtloheacncefkgaaGreatDoor

/- The document's layer 21: a slot's bytes. Conditions: those that each theorem names. -/
namespace Go.Proofs.YtloheacncefkgaaGreatDoor
open Go.RowKit
set_option linter.unusedVariables false
set_option maxRecDepth 100000

theorem eRaw_num {E : List UInt8 → Tr → List UInt8} {f : Fd} {v : Va} (h : numberT f.ty = true) : eRaw E f v = ⟨f.num, wireT f.ty, toT f.ty v.vn, []⟩ := by unfold eRaw; rw [if_pos h]
theorem eRaw_msg {E : List UInt8 → Tr → List UInt8} {f : Fd} {v : Va} {t : Tr} (h : numberT f.ty = false) (h15 : f.ty = 15) (ht : v.vm = [t]) : eRaw E f v = ⟨f.num, 2, 0, E f.ref t⟩ := by
  unfold eRaw; rw [if_neg (by rw [h]; decide), if_pos h15, ht]; rfl
theorem eRaw_txt {E : List UInt8 → Tr → List UInt8} {f : Fd} {v : Va} (h : numberT f.ty = false) (h15 : f.ty ≠ 15) : eRaw E f v = ⟨f.num, 2, 0, v.vs⟩ := by
  unfold eRaw; rw [if_neg (by rw [h]; decide), if_neg h15]
theorem sRaws_not {E : List UInt8 → Tr → List UInt8} {f : Fd} {l : List Va} (h : packedT f = false) : sRaws E f l = l.map (eRaw E f) := by unfold sRaws; rw [if_neg (by rw [h]; decide)]

end Go.Proofs.YtloheacncefkgaaGreatDoor

/- The document's layer 21: a value's bytes. Conditions: those that each theorem names. -/
namespace Go.Proofs.YtloheacncefkgaaGreatDoor
open Go.RowKit
set_option linter.unusedVariables false
set_option maxRecDepth 100000

theorem raws_fit {s : Sc} (hc : checkT s = 0) {k : Nat} {m : Ms} {name : List UInt8} {x : Tr} (hm : vMsg s name = some m) (ht : treeN s (k + 1) name x = true) (ho : OkN (k + 1) x) (hcost : costN (k + 1) x ≤ 1000000000) :
    (putR (tRaws (encN s k) m x)).length ≤ 40000000000 ∧ ∀ r ∈ tRaws (encN s k) m x, okR r = true ∧ r.n < 18446744073709551616 ∧ r.s.length ≤ 140737488351232 := by
  have hlen := enc_cost (s := s) (k + 1) name x ho (by omega)
  rw [encN_some hm] at hlen
  refine ⟨by omega, ?_⟩
  rw [treeN_some hm] at ht
  simp only [Bool.and_eq_true, decide_eq_true_eq, List.all_eq_true] at ht
  obtain ⟨_, x2, x3⟩ := ht
  obtain ⟨_, _, oxr, oxs⟩ := ho
  intro r hrm
  have hs : r.wire = 2 → r.s.length ≤ 40000000000 := fun hw => Nat.le_trans (Nat.le_trans (bytesR_len hw) (bytesR_mem hrm)) (by omega)
  unfold tRaws at hrm
  rcases List.mem_append.mp hrm with hrm | hrm
  · obtain ⟨z, hz, hrz⟩ := List.mem_flatMap.mp hrm
    have hsl : slotT (treeN s k) m z = true := by
      obtain ⟨i, hi⟩ := List.mem_iff_getElem?.mp hz
      have := x2 i z hi
      unfold okS at this
      rw [Bool.and_eq_true] at this
      exact this.1
    have hl : r.s.length ≤ 40000000000 := by
      by_cases hw : r.wire = 2
      · exact hs hw
      · rw [xRaws_nos hsl r hrz hw]; exact Nat.zero_le _
    obtain ⟨r1, r2, r3⟩ := slot_fit hc (vMsg_mem hm) hsl (fun v hv => ((oxs z hz).2 v hv).1.2) r hrz (by omega)
    exact ⟨r1, r2, by omega⟩
  · have h1 := x3 r hrm
    unfold restT at h1
    rw [Bool.and_eq_true] at h1
    have h2 := oxr r hrm
    exact ⟨h1.1, h2.2, h2.1⟩
end Go.Proofs.YtloheacncefkgaaGreatDoor

/- The document's layer 21: Put. Conditions: those that each theorem names. -/
namespace Go.Proofs.YtloheacncefkgaaGreatDoor
open Go.RowKit
set_option linter.unusedVariables false
set_option maxRecDepth 100000

/-- The error that writing a value ends with. -/
def putC (s : Sc) (k : Nat) (name : List UInt8) (x : Tr) : Nat :=
  if messageT s name < 0 then 5 else if treeN s k name x = true then (if 16 < deepN k x then 3 else if 65536 < (encN s k name x).length then 3 else 0) else 1
def putB (s : Sc) (k : Nat) (name : List UInt8) (x : Tr) : List UInt8 := if putC s k name x = 0 then encN s k name x else []
/-- What a call of Put gives. -/
def EnPut (w : World) (bs : List UInt8) (c : Nat) (e : Ending) (w' : World) : Prop := ∃ A cap, e = .returned (.tuple #[.slice A bs.length cap, .int .i64 (c : Int)]) ∧ Bs w' A cap bs ∧ Below w.heap.size w w'
theorem put_ways (s : Sc) (k : Nat) (name : List UInt8) (x : Tr) : (messageT s name < 0 ∧ putC s k name x = 5 ∧ putB s k name x = []) ∨ (¬ messageT s name < 0 ∧ treeN s k name x = false ∧ putC s k name x = 1 ∧ putB s k name x = []) ∨ (¬ messageT s name < 0 ∧ treeN s k name x = true ∧ 16 < deepN k x ∧ putC s k name x = 3 ∧ putB s k name x = []) ∨ (¬ messageT s name < 0 ∧ treeN s k name x = true ∧ ¬ 16 < deepN k x ∧ 65536 < (encN s k name x).length ∧ putC s k name x = 3 ∧ putB s k name x = []) ∨ (¬ messageT s name < 0 ∧ treeN s k name x = true ∧ ¬ 16 < deepN k x ∧ ¬ 65536 < (encN s k name x).length ∧ putC s k name x = 0 ∧ putB s k name x = encN s k name x) := by
  unfold putB putC
  by_cases h1 : messageT s name < 0
  · rw [if_pos h1]; exact .inl ⟨h1, rfl, rfl⟩
  · rw [if_neg h1]
    cases h2 : treeN s k name x with
    | false => exact .inr (.inl ⟨h1, rfl, rfl, rfl⟩)
    | true =>
      rw [if_pos rfl]
      by_cases h3 : 16 < deepN k x
      · rw [if_pos h3]; exact .inr (.inr (.inl ⟨h1, rfl, h3, rfl, rfl⟩))
      · rw [if_neg h3]
        by_cases h4 : 65536 < (encN s k name x).length
        · rw [if_pos h4]; exact .inr (.inr (.inr (.inl ⟨h1, rfl, h3, h4, rfl, rfl⟩)))
        · rw [if_neg h4]; exact .inr (.inr (.inr (.inr ⟨h1, rfl, h3, h4, rfl, rfl⟩)))
end Go.Proofs.YtloheacncefkgaaGreatDoor
