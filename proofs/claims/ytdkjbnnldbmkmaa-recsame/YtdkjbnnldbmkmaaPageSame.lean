/-
  The walks of page.Same, girderref03.Same, girderlaw03.ref, girderlaw03.same, page.Kind, girderref03.Turned.
-/
import Derived.Test.YtdkjbnnldbmkmaaPageDecode2
import Derived.Test.YtdkjbnnldbmkmaaShEqual
import Derived.Shelf.Slices.Empties2
import Derived.Lib.QuietBelow
namespace Go.Proofs.Ytdkjbnnldbmkmaa
open Go.RowKit Go.Sort
set_option linter.unusedVariables false

theorem mixed : Try.prog.follows .mixedOrders = true := by kernel_rfl



/-- Are two pages the same but for the LSN? -/
def sameB (p q : SheetV) : Bool := decide (p.num = q.num ∧ p.kind = q.kind ∧ p.head = q.head ∧ p.slots = q.slots)



end Go.Proofs.Ytdkjbnnldbmkmaa
