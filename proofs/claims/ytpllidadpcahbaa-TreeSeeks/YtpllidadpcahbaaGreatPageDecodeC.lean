/-
  The walk of page.Decode.
-/
import Derived.Test.YtpllidadpcahbaaGreatBase2C
import Derived.Deep.RegionHeld3
namespace Go.Proofs.YtpllidadpcahbaaGreat
open Go.RowKit
set_option linter.unusedVariables false

def pHn (s : ByteArray) : Nat := le (part s 13 1)
def pN (s : ByteArray) : Nat := le (part s (14 + pHn s) 1)
def pOff (s : ByteArray) : Nat := offAt s (15 + pHn s) (pN s) (pN s)
/-- Do the lengths fit? -/
def pFit (s : ByteArray) : Prop := pHn s ≤ 32 ∧ pN s ≤ 64 ∧ pOff s ≤ 500
/-- Is it a page's bytes? -/
def parseOk (s : ByteArray) : Prop := pFit s ∧ zerosB (part s (pOff s) (500 - pOff s)) = true
/-- The page that it is then. -/
def parsed (s : ByteArray) : SheetV := ⟨le (part s 8 4), le (part s 0 8), (le (part s 12 1) : Nat), ⟨(part s 14 (pHn s)).toArray⟩, slotsAt s (15 + pHn s) (pN s)⟩
def sheet0 : SheetV := ⟨0, 0, 0, ⟨#[]⟩, []⟩

set_option maxHeartbeats 400000 in
set_option maxRecDepth 60000 in
theorem blank_any (n : Nat) (w : World) :
    Calls Tryz.prog 21 #[.int .u32 n] w fun x w' => x = .returned (.agg #[.int .u32 n, .int .u64 0, .int .i64 0, .string ⟨#[]⟩, .slice none 0 0]) ∧ Below w.heap.size w w' := by
  go_enter Tryz.func21, Tryz.ntmps21
  go_wp2
  refine bodyPost_ret (v := .agg #[.int .u32 n, .int .u64 0, .int .i64 0, .string ⟨#[]⟩, .slice none 0 0]) (by simp [results, Tryz.results21, go_sem]) rfl ?_
  exact ⟨rfl, (Below.refl _ _).alloc (Nat.le_refl _) _⟩

end Go.Proofs.YtpllidadpcahbaaGreat
