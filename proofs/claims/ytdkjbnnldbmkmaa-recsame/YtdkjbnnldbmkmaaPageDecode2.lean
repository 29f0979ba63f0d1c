/-
  The walk of page.Decode behind the LSN's test.
-/
import Derived.Test.YtdkjbnnldbmkmaaPageDecode
namespace Go.Proofs.Ytdkjbnnldbmkmaa
open Go.RowKit
set_option linter.unusedVariables false





end Go.Proofs.Ytdkjbnnldbmkmaa
