/-
  The walk of page.copyOfOp.
-/
import Derived.Test.YtlphebebnjcidaaGreatPageOpsC
import Derived.Deep.RegionWith
set_option linter.unusedVariables false
set_option linter.unusedSimpArgs false
namespace Go.Proofs.YtlphebebnjcidaaGreat
open Go.RowKit Go.Sort

def four (v0 v1 v2 v3 : Value) : Nat → Value
  | 0 => v0
  | 1 => v1
  | 2 => v2
  | _ => v3

theorem RowV.four_new (w : World) (v0 v1 v2 v3 : Value) (T : TypeId) : RowV (w.alloc (.cells #[v0, v1, v2, v3] T)) w.heap.size 4 (four v0 v1 v2 v3) := by
  intro j hj
  match j, hj with
  | 0, _ => exact ⟨by simp [four], by simp⟩
  | 1, _ => exact ⟨by simp [four], by simp⟩
  | 2, _ => exact ⟨by simp [four], by simp⟩
  | 3, _ => exact ⟨by simp [four], by simp⟩

theorem RowV.cells4 {w : World} {b : Nat} {v0 v1 v2 v3 : Value} (h : RowV w b 4 (four v0 v1 v2 v3)) :
    w.cell? ⟨b, 0, none⟩ = some v0 ∧ w.cell? ⟨b, 1, none⟩ = some v1 ∧ w.cell? ⟨b, 2, none⟩ = some v2 ∧ w.cell? ⟨b, 3, none⟩ = some v3 :=
  ⟨(h 0 (by omega)).1, (h 1 (by omega)).1, (h 2 (by omega)).1, (h 3 (by omega)).1⟩
theorem RowV.open4 {w : World} {b : Nat} {v0 v1 v2 v3 : Value} (h : RowV w b 4 (four v0 v1 v2 v3)) :
    w.frozen? ⟨b, 0, none⟩ = false ∧ w.frozen? ⟨b, 1, none⟩ = false ∧ w.frozen? ⟨b, 2, none⟩ = false ∧ w.frozen? ⟨b, 3, none⟩ = false :=
  ⟨(h 0 (by omega)).2, (h 1 (by omega)).2, (h 2 (by omega)).2, (h 3 (by omega)).2⟩
theorem RowV.set2_4 {w : World} {b : Nat} {v0 v1 v2 v3 : Value} (h : RowV w b 4 (four v0 v1 v2 v3)) (v : Value) : RowV (w.setCell ⟨b, 2, none⟩ v) b 4 (four v0 v1 v v3) :=
  (h.set (k := 2) (by omega) v).congr fun j hj => by match j, hj with | 0, _ => rfl | 1, _ => rfl | 2, _ => rfl | 3, _ => rfl
theorem RowV.set3_4 {w : World} {b : Nat} {v0 v1 v2 v3 : Value} (h : RowV w b 4 (four v0 v1 v2 v3)) (v : Value) : RowV (w.setCell ⟨b, 3, none⟩ v) b 4 (four v0 v1 v2 v) :=
  (h.set (k := 3) (by omega) v).congr fun j hj => by match j, hj with | 0, _ => rfl | 1, _ => rfl | 2, _ => rfl | 3, _ => rfl
theorem RowV.set0_4 {w : World} {b : Nat} {v0 v1 v2 v3 : Value} (h : RowV w b 4 (four v0 v1 v2 v3)) (v : Value) : RowV (w.setCell ⟨b, 0, none⟩ v) b 4 (four v v1 v2 v3) :=
  (h.set (k := 0) (by omega) v).congr fun j hj => by match j, hj with | 0, _ => rfl | 1, _ => rfl | 2, _ => rfl | 3, _ => rfl
theorem RowV.set1_4 {w : World} {b : Nat} {v0 v1 v2 v3 : Value} (h : RowV w b 4 (four v0 v1 v2 v3)) (v : Value) : RowV (w.setCell ⟨b, 1, none⟩ v) b 4 (four v0 v v2 v3) :=
  (h.set (k := 1) (by omega) v).congr fun j hj => by match j, hj with | 0, _ => rfl | 1, _ => rfl | 2, _ => rfl | 3, _ => rfl

end Go.Proofs.YtlphebebnjcidaaGreat
