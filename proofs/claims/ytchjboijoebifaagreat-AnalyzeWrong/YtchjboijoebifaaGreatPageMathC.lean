/-
  Plain mathematics: what Decode finds in the bytes that Encode makes.
-/
import Derived.Test.YtchjboijoebifaaGreatPageDecodeC
set_option linter.unusedVariables false
set_option linter.unusedSimpArgs false
namespace Go.Proofs.YtchjboijoebifaaGreat
open Go.RowKit

theorem part_at {s : ByteArray} {pre mid post : List UInt8} (h : s.data.toList = pre ++ (mid ++ post)) {a n : Nat} (ha : a = pre.length) (hn : n = mid.length) : part s a n = mid := by
  subst ha hn; unfold part; rw [h]; simp

section
variable (p : SheetV)

end

end Go.Proofs.YtchjboijoebifaaGreat
