/-
  slices.Insert of one text into a full row of texts: the row that comes back.
  The walk of page.insert.
-/
import Derived.Test.YtjemeopafkafgaaGreatPageCopyJ
import Derived.Test.YtjemeopafkafgaaGreatProg
import Derived.Shelf.Spec.SlicesInsert
import Derived.Shelf.Spec.SlicesInsertGrow
namespace Go.Proofs.YtjemeopafkafgaaGreat
open Go.RowKit Go.Sort Go.Shelf
set_option linter.unusedVariables false

/-- A row of texts. -/
abbrev StrRow (w : World) (b : Nat) (L : List ByteArray) : Prop := RowV w b L.length (fun j => .string (L.getD j ByteArray.empty))

theorem StrRow.cell {w : World} {b : Nat} {L : List ByteArray} (h : StrRow w b L) {j : Nat} (hj : j < L.length) : w.cell? ⟨b, j, none⟩ = some (.string L[j]) := by
  have := (h j hj).1
  rw [this]
  show some (Value.string (L.getD j ByteArray.empty)) = _
  rw [List.getD_eq_getElem?_getD, List.getElem?_eq_getElem hj]; rfl

theorem StrRow.of {w : World} {b : Nat} {L : List ByteArray} (h : ∀ j (hj : j < L.length), w.cell? ⟨b, j, none⟩ = some (.string L[j]) ∧ w.frozen? ⟨b, j, none⟩ = false) : StrRow w b L := fun j hj => by
  refine ⟨?_, (h j hj).2⟩
  rw [(h j hj).1]
  show _ = some (Value.string (L.getD j ByteArray.empty))
  rw [List.getD_eq_getElem?_getD, List.getElem?_eq_getElem hj]; rfl

end Go.Proofs.YtjemeopafkafgaaGreat

namespace Go.Proofs.YtjemeopafkafgaaGreat
open Go.RowKit Go.Sort
set_option linter.unusedVariables false

/-- A page in memory, at block b, its slots in block bs, both from B on. -/
structure SheetAt (B : Nat) (w : World) (b bs : Nat) (p : SheetV) : Prop where
  row : RowV w b 5 (five (.int .u32 p.num) (.int .u64 p.lsn) (.int .i64 p.kind) (.string p.head) (.slice (some ⟨bs, 0, none⟩) p.slots.length p.slots.length))
  str : StrRow w bs p.slots
  b1 : B ≤ b
  lt : b < w.heap.size
  bs1 : B ≤ bs
  bslt : bs < w.heap.size
  ne : bs ≠ b

theorem SheetAt.below {B : Nat} {w w' : World} {b bs : Nat} {p : SheetV} (h : SheetAt B w b bs p) (k : Below w.heap.size w w') : SheetAt B w' b bs p :=
  ⟨h.row.below k h.lt, h.str.below k h.bslt, h.b1, Nat.lt_of_lt_of_le h.lt k.size, h.bs1, Nat.lt_of_lt_of_le h.bslt k.size, h.ne⟩

theorem SheetAt.ok {B : Nat} {w : World} {b bs : Nat} {p : SheetV} (h : SheetAt B w b bs p) (f : p.Fits) : p.Ok w (some ⟨bs, 0, none⟩) := by
  have hf := f.fits
  refine ⟨f.num, f.lsn, ⟨by have := f.kind0; omega, by have := f.kind1; omega⟩, by have := f.head; omega, by have := f.len; omega, fun s hs => ?_, h.str.strs h.bslt⟩
  obtain ⟨j, hj, rfl⟩ := List.mem_iff_getElem.1 hs
  have := slotSum_at p.slots j hj
  omega

section
variable {B : Nat} {w : World} {b bs : Nat} {p : SheetV} {o : OpV}

end
end Go.Proofs.YtjemeopafkafgaaGreat
