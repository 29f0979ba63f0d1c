/-
  The walk of page.takeSlots.
-/
import Derived.Test.YtdkjbnnldbmkmaaPageRows
namespace Go.Proofs.Ytdkjbnnldbmkmaa
open Go.RowKit
set_option linter.unusedVariables false

/-- The length of slot j, whose lengths stand at q. -/
def longAt (s : ByteArray) (q j : Nat) : Nat := le (part s (q + 2 * j) 2)

/-- Where slot k begins. -/
def offAt (s : ByteArray) (q n : Nat) : Nat → Nat
  | 0 => q + 2 * n
  | k + 1 => offAt s q n k + longAt s q k

theorem offAt_mono (s : ByteArray) (q n : Nat) {k m : Nat} (h : k ≤ m) : offAt s q n k ≤ offAt s q n m := by
  induction m with
  | zero => rw [show k = 0 from by omega]; exact Nat.le_refl _
  | succ m ih =>
    by_cases e : k = m + 1
    · rw [e]; exact Nat.le_refl _
    · have := ih (by omega); simp only [offAt]; omega

/-- The slots. -/
def slotAt (s : ByteArray) (q n j : Nat) : ByteArray := ⟨(part s (offAt s q n j) (longAt s q j)).toArray⟩
def slotsAt (s : ByteArray) (q n : Nat) : List ByteArray := (List.range n).map (slotAt s q n)

theorem slotsAt_length (s : ByteArray) (q n : Nat) : (slotsAt s q n).length = n := by simp [slotsAt]

theorem longAt_lt (s : ByteArray) (q j : Nat) (h : q + 2 * j + 2 ≤ s.size) : longAt s q j < 65536 := by
  have := le_lt_of (l := part s (q + 2 * j) 2) (n := 2) (by rw [part_length (by omega)]; omega)
  exact this

section
variable {w : World} {b : Nat} {s : ByteArray} {p : Nat} {e : Int}

theorem IsReader.alloc {w : World} (h : IsReader w b s p e) (o : Obj) : IsReader (w.alloc o) b s p e := h.below ((Below.refl _ _).alloc (Nat.le_refl _) _)



end
end Go.Proofs.Ytdkjbnnldbmkmaa
