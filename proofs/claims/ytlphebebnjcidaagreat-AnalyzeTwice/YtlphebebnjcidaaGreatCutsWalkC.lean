/-
  The walk of girderlaw04.RecCuts.
-/
import Derived.Test.YtlphebebnjcidaaGreatRecReadC
import Derived.Test.YtlphebebnjcidaaGreatRecDecodeC
import Derived.Test.YtlphebebnjcidaaGreatRowOpsJ
import Derived.Laws.Tables
import Derived.Test.YtlphebebnjcidaaGreatRecDec0J
set_option linter.unusedVariables false
set_option linter.unusedSimpArgs false
namespace Go.Proofs.YtlphebebnjcidaaGreat
open Go.RowKit Go.Sort

theorem decode_good' (s : ByteArray) (w : World) (hs : s.size ≤ 281474976710656) {p : Nat} {r : RecV} (hr : readR s = (p, 0, r)) (he : endE s p 0 = 0) (hc : rcheckE r = 0) (hok : ∀ wx ta da, TxsAt wx ta r.txs → DisAt wx da r.dirty → r.Ok wx ta da) :
    Calls Tryz.prog 18 #[.string s] w fun e w' => ∃ ta da tc dc, e = .returned (.tuple #[.agg (r.cells ta da tc dc), .int .i64 0]) ∧ Below w.heap.size w w' ∧ TxsAt w' ta r.txs ∧ DisAt w' da r.dirty := by
  have h1 : (readR s).1 = p := by rw [hr]
  have h2 : (readR s).2.1 = 0 := by rw [hr]
  have h3 : (readR s).2.2 = r := by rw [hr]
  subst h3
  refine decode_good s w hs rfl rfl rfl rfl rfl rfl rfl ?_ hc hok
  show endE s (readR s).1 (readR s).2.1 = 0
  rw [h1, h2]
  exact he

theorem encR_len (r : RecV) : 13 ≤ (encR r).length := by
  unfold encR
  simp only [List.length_append, putL_length]
  omega

end Go.Proofs.YtlphebebnjcidaaGreat
