/-
  A variable of many cells: made of zeros, by one step.
-/
import Derived.Test.YtchjboijoebifaaGreatRowOpsJ
import Derived.Laws.Tables
set_option linter.unusedVariables false
set_option linter.unusedSimpArgs false
namespace Go.Proofs.YtchjboijoebifaaGreat
open Go.RowKit

section
variable {P : Program} {ops : Array Oper} {rest : List Oper} {o : Oper} {a : Act} {Q : Exit → Act → World → Prop} {W : World}

theorem wpList_buildNone (hgd : o.guard = none) (t : TypeId) (ho : o.op = .build t #[]) (C : Array Value) (hb : P.built t [] = some C) (h : wpList P ops Q rest (a.put o.dst (.agg C)) W) : wpList P ops Q (o :: rest) a W := by
  refine wpList_plain hgd fun K hK => ?_
  have hr := run_build (P := P) W t #[] C hb
  unfold Oper.wp execOp
  simp only [ho, List.map_toArray, List.map_nil, Sem.run_bind, Sem.run_pure, Result.andThen_ok, hr]
  exact hK _ _ h

end

section
variable {P : Program} {ops : Array Oper} {rest : List Oper} {o : Oper} {a : Act} {Q : Exit → Act → World → Prop} {W : World}

end

end Go.Proofs.YtchjboijoebifaaGreat
