/-
  The walk of page.Decode.
-/
import Derived.Test.YtjemeopafkafgaaGreatCrcWalksJ
import Derived.Deep.RegionHeld3
namespace Go.Proofs.YtjemeopafkafgaaGreat
open Go.RowKit
set_option linter.unusedVariables false

def pHn (s : ByteArray) : Nat := le (part s 13 1)
def pN (s : ByteArray) : Nat := le (part s (14 + pHn s) 1)
def pOff (s : ByteArray) : Nat := offAt s (15 + pHn s) (pN s) (pN s)
/-- Do the lengths fit? -/
def pFit (s : ByteArray) : Prop := pHn s ≤ 32 ∧ pN s ≤ 64 ∧ pOff s ≤ 500
/-- Is it a page's bytes? -/
def parseOk (s : ByteArray) : Prop := pFit s ∧ zerosB (part s (pOff s) (500 - pOff s)) = true
/-- The page that it is then. -/
def parsed (s : ByteArray) : SheetV := ⟨le (part s 8 4), le (part s 0 8), (le (part s 12 1) : Nat), ⟨(part s 14 (pHn s)).toArray⟩, slotsAt s (15 + pHn s) (pN s)⟩
def sheet0 : SheetV := ⟨0, 0, 0, ⟨#[]⟩, []⟩

theorem str_ne {a b : ByteArray} (h : a ≠ b) : (a.toList == b.toList) = false := by
  rw [beq_eq_false_iff_ne, ByteArray.toList_eq, ByteArray.toList_eq]
  exact fun e => h (Go.WideShapes.bytes_inj e)

theorem str_eq {a b : ByteArray} (h : a = b) : (a.toList == b.toList) = true := by rw [h]; simp

end Go.Proofs.YtjemeopafkafgaaGreat
