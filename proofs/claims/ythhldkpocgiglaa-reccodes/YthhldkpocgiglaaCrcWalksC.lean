/-
  The walks of the sum: what raw.shiftByte, raw.More, raw.Sum and girderref01.More return, for every register and every text.
-/
import Derived.Test.YthhldkpocgiglaaProg
import Derived.Test.YthhldkpocgiglaaBase1C
import Derived.WalkKit
import Derived.WalkSpells
import Derived.WalkLawsBesides
namespace Go.Proofs.Ythhldkpocgiglaa
open Go.RowKit



theorem take_snoc (s : ByteArray) (k : Nat) (h : k < s.size) : s.data.toList.take (k + 1) = s.data.toList.take k ++ [s[k]] := by
  rw [List.take_succ_eq_append_getElem (by simpa using h)]; rfl






end Go.Proofs.Ythhldkpocgiglaa
