/- Several texts in one: SbW. What each proves, and its conditions, stands at its own head. -/
import Derived.Shelf.Strings.BuilderK
import Derived.Shelf.Strings.BuilderX
import Derived.Test.YtjogamffdbedkaaGreatDoorChecked
/- Of the library's strings.Builder, laid at this seat: (*strings.Builder).WriteByte. Conditions: none. -/
namespace Go.Proofs.YtjogamffdbedkaaGreatDoor
open Go.Shelf

def sbw_ren : Ren := ⟨fun | 167 => 58 | 240 => 95 | 276 => 131 | n => n, fun | 0 => 0 | 4 => 4 | 5 => 5 | 9 => 9 | 20 => 20 | 37 => 45 | 70 => 44 | 72 => 47 | 75 => 76 | 80 => 51 | 164 => 118 | n => n, fun n => n⟩
theorem sbw_extra : Builder.Extra Tryz.prog sbw_ren := {
  sizeBuilder := by kernel_rfl
  liesBuilder := by kernel_rfl
  t5 := Tryz.underlying5
  a5 := Tryz.isAgg5
  z5 := Tryz.sizeOf5
  v5 := Tryz.zeroValue5
  infoByte := by kernel_rfl
  cellsByte := by kernel_rfl
  sizeByte := by kernel_rfl
  neB5 := by decide }
end Go.Proofs.YtjogamffdbedkaaGreatDoor
