/-
  The walk of page.Decode.
-/
import Derived.Test.YtnljephojonilaaBase2C
import Derived.Deep.RegionHeld3
namespace Go.Proofs.Ytnljephojonilaa
open Go.RowKit
set_option linter.unusedVariables false

def pHn (s : ByteArray) : Nat := le (part s 13 1)
def pN (s : ByteArray) : Nat := le (part s (14 + pHn s) 1)
def pOff (s : ByteArray) : Nat := offAt s (15 + pHn s) (pN s) (pN s)
/-- Do the lengths fit? -/
def pFit (s : ByteArray) : Prop := pHn s ≤ 32 ∧ pN s ≤ 64 ∧ pOff s ≤ 500
/-- Is it a page's bytes? -/
def parseOk (s : ByteArray) : Prop := pFit s ∧ zerosB (part s (pOff s) (500 - pOff s)) = true
/-- The page that it is then. -/
def parsed (s : ByteArray) : SheetV := ⟨le (part s 8 4), le (part s 0 8), (le (part s 12 1) : Nat), ⟨(part s 14 (pHn s)).toArray⟩, slotsAt s (15 + pHn s) (pN s)⟩
def sheet0 : SheetV := ⟨0, 0, 0, ⟨#[]⟩, []⟩

theorem slotsAt_getD (s : ByteArray) (q n j : Nat) (hj : j < n) : (slotsAt s q n).getD j ByteArray.empty = slotAt s q n j := by
  rw [List.getD_eq_getElem?_getD, List.getElem?_eq_getElem (by rw [slotsAt_length]; exact hj)]; simp [slotsAt]



def parseB (s : ByteArray) : Bool := decide (pHn s ≤ 32) && decide (pN s ≤ 64) && decide (pOff s ≤ 500) && zerosB (part s (pOff s) (500 - pOff s))
theorem parseB_iff (s : ByteArray) : parseB s = true ↔ parseOk s := by unfold parseB parseOk pFit; simp [and_assoc]

/-- What lies between the sum and the LSN at the end. -/
def cutB (s : ByteArray) : ByteArray := s.extract 4 504

/-- The error of Decode. -/
def decE (s : ByteArray) : Int :=
  if s.size < 512 then 4 else if 512 < s.size then 5 else if zerosB s.data.toList = true then 0 else if s.extract 504 512 ≠ s.extract 4 12 then 34
  else if s.extract 0 4 ≠ ⟨(putL (crcSum 0 (s.extract 4 512).data.toList) 4).toArray⟩ then 32 else if parseB (cutB s) = true then 0 else 6

/-- The page of Decode. -/
def decP (s : ByteArray) : SheetV := if decE s = 0 ∧ zerosB s.data.toList = false then parsed (cutB s) else sheet0

theorem str_ne {a b : ByteArray} (h : a ≠ b) : (a.toList == b.toList) = false := by
  rw [beq_eq_false_iff_ne, ByteArray.toList_eq, ByteArray.toList_eq]
  exact fun e => h (Go.WideShapes.bytes_inj e)

theorem str_eq {a b : ByteArray} (h : a = b) : (a.toList == b.toList) = true := by rw [h]; simp

set_option maxHeartbeats 400000 in
set_option maxRecDepth 60000 in
theorem blank_any (n : Nat) (w : World) :
    Calls Try.prog 9 #[.int .u32 n] w fun x w' => x = .returned (.agg #[.int .u32 n, .int .u64 0, .int .i64 0, .string ⟨#[]⟩, .slice none 0 0]) ∧ Below w.heap.size w w' := by
  go_enter Try.func9, Try.ntmps9
  go_wp2
  refine bodyPost_ret (v := .agg #[.int .u32 n, .int .u64 0, .int .i64 0, .string ⟨#[]⟩, .slice none 0 0]) (by simp [results, Try.results9, go_sem]) rfl ?_
  exact ⟨rfl, (Below.refl _ _).alloc (Nat.le_refl _) _⟩









end Go.Proofs.Ytnljephojonilaa
