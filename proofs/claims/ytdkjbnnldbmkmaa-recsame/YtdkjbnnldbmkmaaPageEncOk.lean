/-
  The walk of page.Encode, of a page that fits.
-/
import Derived.Test.YtdkjbnnldbmkmaaPageEncode
namespace Go.Proofs.Ytdkjbnnldbmkmaa
open Go.RowKit
set_option linter.unusedVariables false



end Go.Proofs.Ytdkjbnnldbmkmaa
