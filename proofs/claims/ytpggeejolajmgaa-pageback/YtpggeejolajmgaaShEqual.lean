/-
  The laying of a contract of the library's shelf at this program's numbers (plain text by the library's own command).
-/
import Derived.Test.YtpggeejolajmgaaProg
import Derived.Shelf.Slices.Equal
namespace Go.Proofs.Ytpggeejolajmgaa
open Go.Shelf

def equalLays_ren : Go.Shelf.Ren := ⟨fun | 193 => 32 | n => n, fun | 31 => 26 | 9 => 9 | 4 => 4 | 3 => 3 | 0 => 0 | n => n, fun | n => n⟩
theorem equalLays : Go.Proofs.Lays.n193 Try.prog equalLays_ren := {
  mixed := by kernel_rfl
  f193 := Try.func32.trans (congrArg some (by kernel_rfl))
  t0 := Try.underlying0
  a0 := Try.isAgg0
  z0 := Try.sizeOf0
  v0 := Try.zeroValue0
  t3 := Try.underlying3
  a3 := Try.isAgg3
  z3 := Try.sizeOf3
  v3 := Try.zeroValue3
  t4 := Try.underlying4
  a4 := Try.isAgg4
  z4 := Try.sizeOf4
  v4 := Try.zeroValue4
  t9 := Try.underlying9
  a9 := Try.isAgg9
  z9 := Try.sizeOf9
  v9 := Try.zeroValue9
  t31 := Try.underlying26
  a31 := Try.isAgg26
  z31 := Try.sizeOf26
  v31 := Try.zeroValue26 }

end Go.Proofs.Ytpggeejolajmgaa
