/-
  The walk of girderref04.bare.
-/
import Derived.Test.YtndfjjcflbpdnaaRefRecC
namespace Go.Proofs.Ytndfjjcflbpdnaa
open Go.RowKit Go.Sort
set_option linter.unusedVariables false
set_option linter.unusedSimpArgs false

/-- Is all that a change has zero? -/
def bareB (r : RecV) : Bool := decide ((r.page = 0 ∧ (r.op.kind = 0 ∧ r.op.at' = 0 ∧ r.op.S.size = 0 ∧ r.op.old.size = 0) ∧ r.undo = 0 ∧ r.index = 0 ∧ r.key.size = 0 ∧ r.rpage = 0 ∧ r.rslot = 0) ∧ r.live = false)

set_option maxHeartbeats 1600000 in
set_option maxRecDepth 8000 in
theorem rbare_any (r : RecV) (v u : Value) (w : World) :
    Calls Try.prog 33 #[.agg (refCells r v u)] w fun e w' => e = .returned (.bool (bareB r)) ∧ Below w.heap.size w w' := by
  obtain ⟨R, HR⟩ : ∃ R, Hid (bareB r = R) := ⟨_, rfl⟩
  rw [HR.out]
  obtain ⟨W, HW⟩ : ∃ W, Hid (W = w.alloc (.cells (refCells r v u) 43)) := ⟨_, rfl⟩
  have HB : Hid (Below w.heap.size w W ∧ BlkR W w.heap.size (refCells r v u) 43) := by rw [HW.out]; exact ⟨(Below.refl _ _).alloc (Nat.le_refl _) _, heap_alloc_new w _⟩
  have HPAR : Hid (refCells r v u = #[.int .i64 r.kind, .int .i64 r.tx, .int .u64 r.prev, .int .u64 r.next, .int .u32 r.page, .int .i64 r.op.kind, .int .i64 r.op.at', .string r.op.S, .string r.op.old, .int .i64 r.undo, .int .i64 r.index, .string r.key, .int .u32 r.rpage, .int .i64 r.rslot, .bool r.live, v, u]) := rfl
  unfold bareB at HR
  rw [HPAR.out]
  go_enter Try.func33, Try.ntmps33
  go_upto_region 1 with fail
  rw [← HPAR.out, show w.alloc (.cells (refCells r v u) 43) = W from HW.out.symm]
  obtain ⟨z0, z1, z2, z3, z4, z5, z6, z7, z8, z9, z10, z11, z12, z13, z14, z15, z16⟩ := out_cells HB.out.2
  clear HW HPAR
  cases hl : r.live with
  | true =>
    have HR4 : Hid (R = false) := by show _ = _; rw [← HR.out, hl]; simp
    clear HR
    rw [hl] at z14
    clear hl
    go_wp2
    all_goals
      go_ret
      refine ⟨ret_bool ?_, HB.out.1⟩
      rw [HR4.out]
      try rfl
  | false =>
    have HR4 : Hid (R = decide (r.page = 0 ∧ (r.op.kind = 0 ∧ r.op.at' = 0 ∧ r.op.S.size = 0 ∧ r.op.old.size = 0) ∧ r.undo = 0 ∧ r.index = 0 ∧ r.key.size = 0 ∧ r.rpage = 0 ∧ r.rslot = 0)) := by show _ = _; rw [← HR.out, hl]; simp
    clear HR
    rw [hl] at z14
    clear hl
    go_wp2
    all_goals
      go_ret
      refine ⟨ret_bool ?_, HB.out.1⟩
      rw [HR4.out, Bool.eq_iff_iff]
      clear HB HR4 z0 z1 z2 z3 z4 z5 z6 z7 z8 z9 z10 z11 z12 z13 z14 z15 z16
      try simp only [tl_nil_eq] at *
      simp only [empty_size_eq, ba_empty_eq, Bool.and_eq_true, decide_eq_true_eq, Bool.false_eq_true, bne_iff_ne, beq_iff_eq, ne_eq, Bool.not_eq_true', decide_eq_false_iff_not, Bool.not_false, and_true, true_iff, false_iff]
      omega

end Go.Proofs.Ytndfjjcflbpdnaa
