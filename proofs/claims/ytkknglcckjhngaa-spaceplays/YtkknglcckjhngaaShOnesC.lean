/-
  The laying of a contract of the library's shelf at this program's numbers (plain text by the library's own command).
-/
import Derived.Test.YtkknglcckjhngaaProg
import Derived.Shelf.Small.Bits
namespace Go.Proofs.Ytkknglcckjhngaa
open Go.Shelf

def shOnes_ren : Go.Shelf.Ren := ⟨fun | 135 => 28 | n => n, fun | 5 => 5 | 3 => 3 | 9 => 9 | n => n, fun | n => n⟩
theorem shOnes : Go.Proofs.Lays.n135 Try.prog shOnes_ren := {
  mixed := by kernel_rfl
  f135 := Try.func28.trans (congrArg some (by kernel_rfl))
  t3 := Try.underlying3
  a3 := Try.isAgg3
  z3 := Try.sizeOf3
  v3 := Try.zeroValue3
  t5 := Try.underlying5
  a5 := Try.isAgg5
  z5 := Try.sizeOf5
  v5 := Try.zeroValue5
  t9 := Try.underlying9
  a9 := Try.isAgg9
  z9 := Try.sizeOf9
  v9 := Try.zeroValue9 }

end Go.Proofs.Ytkknglcckjhngaa
