/-
  The walk of girderlaw03.same.
-/
import Derived.Test.YtdkjbnnldbmkmaaPageSame2
namespace Go.Proofs.Ytdkjbnnldbmkmaa
open Go.RowKit Go.Sort
set_option linter.unusedVariables false



end Go.Proofs.Ytdkjbnnldbmkmaa
