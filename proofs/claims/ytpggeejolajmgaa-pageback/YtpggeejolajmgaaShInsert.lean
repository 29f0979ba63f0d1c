/-
  The laying of a contract of the library's shelf at this program's numbers (plain text by the library's own command).
-/
import Derived.Test.YtpggeejolajmgaaProg
import Derived.Shelf.Spec.SlicesInsert
namespace Go.Proofs.Ytpggeejolajmgaa
open Go.Shelf

def insertLays_ren : Go.Shelf.Ren := ⟨fun | 22 => 110 | 29 => 122 | 30 => 123 | 36 => 126 | 17 => 127 | n => n, fun | 24 => 26 | 9 => 9 | 3 => 3 | 4 => 4 | 0 => 0 | n => n, fun | n => n⟩
theorem insertLays : Go.Proofs.Lays2.n22 Try.prog insertLays_ren := {
  mixed := by kernel_rfl
  f17 := Try.func127.trans (congrArg some (by kernel_rfl))
  f22 := Try.func110.trans (congrArg some (by kernel_rfl))
  f29 := Try.func122.trans (congrArg some (by kernel_rfl))
  f30 := Try.func123.trans (congrArg some (by kernel_rfl))
  f36 := Try.func126.trans (congrArg some (by kernel_rfl))
  t0 := Try.underlying0
  a0 := Try.isAgg0
  z0 := Try.sizeOf0
  v0 := Try.zeroValue0
  t3 := Try.underlying3
  a3 := Try.isAgg3
  z3 := Try.sizeOf3
  v3 := Try.zeroValue3
  t4 := Try.underlying4
  a4 := Try.isAgg4
  z4 := Try.sizeOf4
  v4 := Try.zeroValue4
  t9 := Try.underlying9
  a9 := Try.isAgg9
  z9 := Try.sizeOf9
  v9 := Try.zeroValue9
  t24 := Try.underlying26
  a24 := Try.isAgg26
  z24 := Try.sizeOf26
  v24 := Try.zeroValue26
  i9 := by kernel_rfl }

end Go.Proofs.Ytpggeejolajmgaa
