/-
  The laying of a contract of the library's shelf at this program's numbers (plain text by the library's own command).
-/
import Derived.Test.YtdkjbnnldbmkmaaProg
import Derived.Shelf.Slices.Equal
namespace Go.Proofs.Ytdkjbnnldbmkmaa
open Go.Shelf



end Go.Proofs.Ytdkjbnnldbmkmaa
