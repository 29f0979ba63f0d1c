/-
  slices.Insert of one text into a full row of texts: the row that comes back.
  The walk of page.insert.
-/
import Derived.Test.YtpllidadpcahbaaGreatPageCopy2C
import Derived.Test.YtpllidadpcahbaaGreatProg
import Derived.Shelf.Spec.SlicesInsert
import Derived.Shelf.Spec.SlicesInsertGrow
namespace Go.Proofs.YtpllidadpcahbaaGreat
open Go.RowKit Go.Sort Go.Shelf
set_option linter.unusedVariables false

/-- A row of texts. -/
abbrev StrRow (w : World) (b : Nat) (L : List ByteArray) : Prop := RowV w b L.length (fun j => .string (L.getD j ByteArray.empty))

end Go.Proofs.YtpllidadpcahbaaGreat

namespace Go.Proofs.YtpllidadpcahbaaGreat
open Go.RowKit Go.Sort
set_option linter.unusedVariables false

/-- A page in memory, at block b, its slots in block bs, both from B on. -/
structure SheetAt (B : Nat) (w : World) (b bs : Nat) (p : SheetV) : Prop where
  row : RowV w b 5 (five (.int .u32 p.num) (.int .u64 p.lsn) (.int .i64 p.kind) (.string p.head) (.slice (some ⟨bs, 0, none⟩) p.slots.length p.slots.length))
  str : StrRow w bs p.slots
  b1 : B ≤ b
  lt : b < w.heap.size
  bs1 : B ≤ bs
  bslt : bs < w.heap.size
  ne : bs ≠ b

theorem SheetAt.below {B : Nat} {w w' : World} {b bs : Nat} {p : SheetV} (h : SheetAt B w b bs p) (k : Below w.heap.size w w') : SheetAt B w' b bs p :=
  ⟨h.row.below k h.lt, h.str.below k h.bslt, h.b1, Nat.lt_of_lt_of_le h.lt k.size, h.bs1, Nat.lt_of_lt_of_le h.bslt k.size, h.ne⟩

section
variable {B : Nat} {w : World} {b bs : Nat} {p : SheetV} {o : OpV}

end
end Go.Proofs.YtpllidadpcahbaaGreat
