/-
  The laying of a contract of the library's shelf at this program's numbers (plain text by the library's own command).
-/
import Derived.Test.YthagomibjlcfmaaDoorProg
import Derived.Shelf.Slices.Reverse
namespace Go.Proofs.YthagomibjlcfmaaDoor
open Go.Shelf

def revLays_ren : Go.Shelf.Ren := ⟨fun | 112 => 31 | n => n, fun | 28 => 38 | 3 => 3 | 4 => 4 | 0 => 0 | n => n, fun | n => n⟩
theorem revLays : Go.Proofs.Lays.n112 Tryd.prog revLays_ren := {
  mixed := by kernel_rfl
  f112 := Tryd.func31.trans (congrArg some (by kernel_rfl))
  t0 := Tryd.underlying0
  a0 := Tryd.isAgg0
  z0 := Tryd.sizeOf0
  v0 := Tryd.zeroValue0
  t3 := Tryd.underlying3
  a3 := Tryd.isAgg3
  z3 := Tryd.sizeOf3
  v3 := Tryd.zeroValue3
  t4 := Tryd.underlying4
  a4 := Tryd.isAgg4
  z4 := Tryd.sizeOf4
  v4 := Tryd.zeroValue4
  t28 := Tryd.underlying38
  a28 := Tryd.isAgg38
  z28 := Tryd.sizeOf38
  v28 := Tryd.zeroValue38 }

end Go.Proofs.YthagomibjlcfmaaDoor
