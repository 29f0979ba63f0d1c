/-
  The laying of a contract of the library's shelf at this program's numbers (plain text by the library's own command).
  strings.Clone off the shelf: see Clone.
-/
import Derived.Test.YtgmfgkdecpldeaaGreatProg
import Derived.Shelf.Slices.Equal
import Derived.Test.YtgmfgkdecpldeaaGreatCloneC
namespace Go.Proofs.YtgmfgkdecpldeaaGreat
open Go.Shelf

def equalLays_ren : Go.Shelf.Ren := ⟨fun | 193 => 70 | n => n, fun | 31 => 43 | 9 => 9 | 4 => 4 | 3 => 3 | 0 => 0 | n => n, fun | n => n⟩
theorem equalLays : Go.Proofs.Lays.n193 Tryz.prog equalLays_ren := {
  mixed := by kernel_rfl
  f193 := Tryz.func70.trans (congrArg some (by kernel_rfl))
  t0 := Tryz.underlying0
  a0 := Tryz.isAgg0
  z0 := Tryz.sizeOf0
  v0 := Tryz.zeroValue0
  t3 := Tryz.underlying3
  a3 := Tryz.isAgg3
  z3 := Tryz.sizeOf3
  v3 := Tryz.zeroValue3
  t4 := Tryz.underlying4
  a4 := Tryz.isAgg4
  z4 := Tryz.sizeOf4
  v4 := Tryz.zeroValue4
  t9 := Tryz.underlying9
  a9 := Tryz.isAgg9
  z9 := Tryz.sizeOf9
  v9 := Tryz.zeroValue9
  t31 := Tryz.underlying43
  a31 := Tryz.isAgg43
  z31 := Tryz.sizeOf43
  v31 := Tryz.zeroValue43 }

end Go.Proofs.YtgmfgkdecpldeaaGreat


