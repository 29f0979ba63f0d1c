/-
  The walk of page.Encode, of a page that fits.
-/
import Derived.Test.YtpnnadfmhkplhaaPageEncodeC
namespace Go.Proofs.Ytpnnadfmhkplhaa
open Go.RowKit
set_option linter.unusedVariables false



end Go.Proofs.Ytpnnadfmhkplhaa
