/-
  The closed facts of UndoOps' row, one by one (all at once the kernel runs out of memory).
-/
import Derived.Test.YtdhphbokkmofaaaGreatRows
import Derived.ProofKit
import Derived.OpenShut
set_option linter.unusedVariables false
set_option linter.unusedSimpArgs false
namespace Go.Proofs.YtdhphbokkmofaaaGreat
open Go.RowKit

theorem undoF_and2 {a b : Bool} (h1 : a = true) (h2 : b = true) : (a && b) = true := by rw [h1, h2]; rfl

theorem undoF_named : Tryz.prog.funcNamed Rows.undoOpsRow.func = some 4 := by kernel_rfl

theorem undoF_e1 : (Rows.undoOpsRow.inPlace == Tryz.prog.inPlace 4) = true := by kernel_rfl
theorem undoF_e2 : (Rows.undoOpsRow.unfollowed == Tryz.prog.unfollowed 4) = true := by kernel_rfl
theorem undoF_e3 : (Rows.undoOpsRow.recurses == Tryz.prog.recurses 4) = true := by kernel_rfl
theorem undoF_e4 : (Rows.undoOpsRow.named == Tryz.prog.varsNamed 4) = true := by kernel_rfl
theorem undoF_e5 : laidOutB Tryz.prog = true := by kernel_rfl
theorem undoF_e6 : mapsRowed Tryz.prog = true := by kernel_rfl
theorem undoF_e7 : Tryz.prog.stopsHeard = true := by kernel_rfl
theorem undoF_e8 : Tryz.prog.mayEnter = true := by kernel_rfl

theorem undoF_closed : joinedFacts Tryz.prog 4 Tryz.f4 Rows.undoOpsSpec Rows.undoOpsRow = true := by
  unfold joinedFacts
  repeat' with_reducible refine undoF_and2 ?_ ?_
  all_goals first
    | with_reducible exact undoF_e1
    | with_reducible exact undoF_e2
    | with_reducible exact undoF_e3
    | with_reducible exact undoF_e4
    | with_reducible exact undoF_e5
    | with_reducible exact undoF_e6
    | with_reducible exact undoF_e7
    | with_reducible exact undoF_e8
    | (as_aux_lemma => kernel_rfl)

theorem undoF_inst : (Tryz.f4).isInstance Tryz.prog Rows.undoOpsRow.origin Rows.undoOpsRow.targs := of_decide_eq_true (by kernel_rfl)

theorem undoF_wrapper : (Tryz.f4).isWrapper Tryz.prog Rows.undoOpsRow.wrapper Rows.undoOpsRow.mainSum := by
  unfold Func.isWrapper
  first
    | (rw [if_pos (by decide +kernel)]; kernel_rfl)
    | (rw [if_neg (by decide +kernel)]; exact ⟨rfl, rfl⟩)

end Go.Proofs.YtdhphbokkmofaaaGreat
