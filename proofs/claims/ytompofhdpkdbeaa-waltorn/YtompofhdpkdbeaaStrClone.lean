/-
  The contract of internal/stringslite.Clone, taken from the library's shelf at this program's numbers, and the walk of strings.Clone: the same bytes, in new memory.
-/
import Derived.Shelf.LaysM
import Derived.Shelf.Strconv.Clone
import Derived.Test.YtompofhdpkdbeaaProg
import Derived.WalkKit
import Derived.WalkSpells
import Derived.WalkLawsBesides
namespace Go.Proofs.Ytompofhdpkdbeaa
open Go.Shelf Go.RowKit









end Go.Proofs.Ytompofhdpkdbeaa
