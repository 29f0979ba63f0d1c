/-
  The walk of rec.Encode of a record whose kind names neither a next place, nor a change, nor lists.
-/
import Derived.Test.YtchjboijoebifaaGreatRecCheck0J
set_option linter.unusedVariables false
set_option linter.unusedSimpArgs false
namespace Go.Proofs.YtchjboijoebifaaGreat
open Go.RowKit Go.Sort

theorem long1 : longOf 1 = 1 := by decide
theorem long2 : longOf 2 = 2 := by decide
theorem long4 : longOf 4 = 4 := by decide
theorem long8 : longOf 8 = 8 := by decide

theorem BlkR.under {w w' : World} {p b : Nat} {cs : Array Value} {t : TypeId} (h : BlkR w p cs t) (k : Below b w w') (hp : p < b) : BlkR w' p cs t := (k.block p hp).trans h

end Go.Proofs.YtchjboijoebifaaGreat
