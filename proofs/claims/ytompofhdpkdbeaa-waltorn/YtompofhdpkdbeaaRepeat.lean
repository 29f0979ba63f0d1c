/-
  strings.Repeat at this program's numbers, and what the program asks of it: 512 zeros.
-/
import Derived.Test.YtompofhdpkdbeaaShRepeat
namespace Go.Proofs.Ytompofhdpkdbeaa
open Go.Shelf Go.RowKit

/-- A page of zeros. -/
def zerosL : List UInt8 := List.replicate 512 0
def zerosS : ByteArray := ⟨zerosL.toArray⟩

theorem zeros_any (w : World) : Calls Try.prog 78 #[.string ⟨#[0]⟩, .int .i64 512] w fun e w' => e = .returned (.string zerosS) ∧ Below w.heap.size w w' := zeros_made 512 w (by omega)

theorem zerosS_size : zerosS.size = 512 := by
  show zerosL.toArray.size = 512
  rw [List.size_toArray]
  exact List.length_replicate

end Go.Proofs.Ytompofhdpkdbeaa
