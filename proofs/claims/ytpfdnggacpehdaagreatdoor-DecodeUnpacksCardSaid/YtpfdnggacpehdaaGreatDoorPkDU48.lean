/- Several texts in one: RdS, RdT. What each proves, and its conditions, stands at its own head. -/
import Derived.Test.YtpfdnggacpehdaaGreatDoorPkDU44
import Derived.Test.YtpfdnggacpehdaaGreatDoorPkDU24
import Derived.Test.YtpfdnggacpehdaaGreatDoorPkDU5
import Derived.Test.YtpfdnggacpehdaaGreatDoorPkDU0
import Derived.Test.YtpfdnggacpehdaaGreatDoorPkDU2
import Derived.Test.YtpfdnggacpehdaaGreatDoorPkDU3
import Derived.Test.YtpfdnggacpehdaaGreatDoorPkDU16
import Derived.Test.YtpfdnggacpehdaaGreatDoorPkDU35
import Derived.Deep.RegionHeld3
import Derived.Test.YtpfdnggacpehdaaGreatDoorPkDU23
import Derived.Test.YtpfdnggacpehdaaGreatDoorPkDU18
import Derived.Test.YtpfdnggacpehdaaGreatDoorPkDU15
import Derived.IntWalk
import Derived.Test.YtpfdnggacpehdaaGreatDoorPkDU7
import Derived.Test.YtpfdnggacpehdaaGreatDoorChecked
import Derived.Deep.RegionWith
import Derived.WalkKit
import Derived.RowKitTokens
import Derived.Test.YtpfdnggacpehdaaGreatDoorPkDU31
import Derived.OwnWalk
import Derived.Lib.Hide
import Derived.BigQuiet
import Derived.Deep.QuietTactic
/- The document's layer 20: which slots are a field's; Knows. Conditions: those that each theorem names. -/
namespace Go.Proofs.YtpfdnggacpehdaaGreatDoor
open Go.RowKit
set_option linter.unusedVariables false
set_option maxRecDepth 100000

/-- The slot's boxes and its field's. -/
structure RdW (w : World) (fb : Nat) (O1 O2 O3 O4 : Obj) (u : World) : Prop where
  r_b : Bx3 w u O1 O2 O3
  r_f : u.heap[fb]? = some O4
theorem RdW.on {w u u' : World} {fb : Nat} {O1 O2 O3 O4 : Obj} (h : RdW w fb O1 O2 O3 O4 u) (hb : Below u.heap.size u u') : RdW w fb O1 O2 O3 O4 u' := ⟨bx3_step h.r_b hb, (hb.block _ (lt_of_block h.r_f)).trans h.r_f⟩
end Go.Proofs.YtpfdnggacpehdaaGreatDoor

/- The document's layer 20: which trees are a message's values. Conditions: those that each theorem names. -/
namespace Go.Proofs.YtpfdnggacpehdaaGreatDoor
open Go.RowKit
set_option linter.unusedVariables false
set_option maxRecDepth 100000

/-- The boxes of a call of the document's Tree. -/
structure RtW (w : World) (mb : Nat) (SCH TRE MSG : Array Value) (u : World) : Prop where
  t_bel : Below w.heap.size w u
  t_s : u.heap[w.heap.size]? = some (.cells SCH 25 (0, 0))
  t_x : u.heap[w.heap.size + 1]? = some (.cells TRE 33 (0, 0))
  t_m : u.heap[mb]? = some (.cells MSG 59 (0, 0))
section
variable {w u u' : World} {mb : Nat} {SCH TRE MSG : Array Value}
theorem RtW.cells {A A2 B B2 A1 A3 : Option Addr} {ne ca nm ca2 na cb nr cr nf c1 nb c3 : Nat} {sn : ByteArray} (h : RtW w mb #[.slice A ne ca, .slice A2 nm ca2] #[.slice B na cb, .slice B2 nr cr] #[.string sn, .slice A1 nf c1, .slice A3 nb c3] u) : (u.cell? ⟨w.heap.size, 0, none⟩ = some (.slice A ne ca) ∧ u.cell? ⟨w.heap.size, 1, none⟩ = some (.slice A2 nm ca2)) ∧ (u.cell? ⟨w.heap.size + 1, 0, none⟩ = some (.slice B na cb) ∧ u.cell? ⟨w.heap.size + 1, 1, none⟩ = some (.slice B2 nr cr)) ∧ (u.cell? ⟨mb, 0, none⟩ = some (.string sn) ∧ u.cell? ⟨mb, 1, none⟩ = some (.slice A1 nf c1) ∧ u.cell? ⟨mb, 2, none⟩ = some (.slice A3 nb c3)) :=
  ⟨⟨obj_cell h.t_s 0, obj_cell h.t_s 1⟩, ⟨obj_cell h.t_x 0, obj_cell h.t_x 1⟩, obj_cell h.t_m 0, obj_cell h.t_m 1, obj_cell h.t_m 2⟩
end

end Go.Proofs.YtpfdnggacpehdaaGreatDoor
