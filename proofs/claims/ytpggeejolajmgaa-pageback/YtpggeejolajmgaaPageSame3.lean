/-
  The walk of girderlaw03.same.
-/
import Derived.Test.YtpggeejolajmgaaPageSame2
namespace Go.Proofs.Ytpggeejolajmgaa
open Go.RowKit Go.Sort
set_option linter.unusedVariables false



end Go.Proofs.Ytpggeejolajmgaa
