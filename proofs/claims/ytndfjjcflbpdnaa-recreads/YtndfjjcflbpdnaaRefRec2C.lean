/-
  The walks of girderref04.change, bare.
-/
import Derived.Test.YtndfjjcflbpdnaaRefRecC
namespace Go.Proofs.Ytndfjjcflbpdnaa
open Go.RowKit Go.Sort
set_option linter.unusedVariables false
set_option linter.unusedSimpArgs false

/-- A record of the document's in a box. -/
theorem rbox {w : World} (C : Array Value) : BlkR (w.alloc (.cells C 43)) w.heap.size C 43 := heap_alloc_new w _

/-- Is a change as it must be, with how it is undone? -/
def rchangeB (r : RecV) : Bool := decide (r.page ≠ 0) && (chkB r.op && (decide (0 ≤ r.undo ∧ r.undo ≤ 2) && (if r.undo = 2 then decide (0 ≤ r.index ∧ r.index ≤ 65535) && (decide (r.key.size ≤ 64) && decide (0 ≤ r.rslot ∧ r.rslot ≤ 65535)) else decide (r.index = 0) && (decide (r.key.size = 0) && (decide (r.rpage = 0) && (decide (r.rslot = 0) && !r.live)))))) 

set_option maxHeartbeats 1600000 in
set_option maxRecDepth 8000 in
theorem rchange_any (r : RecV) (v u : Value) (w : World) (ho : r.op.Ok) (hk : r.key.size ≤ 140737488351232) (hp : r.page < 4294967296) (hrp : r.rpage < 4294967296) :
    Calls Try.prog 32 #[.agg (refCells r v u)] w fun e w' => e = .returned (.bool (rchangeB r)) ∧ Below w.heap.size w w' := by
  obtain ⟨R, HR⟩ : ∃ R, Hid (rchangeB r = R) := ⟨_, rfl⟩
  rw [HR.out]
  have HCK : Hid (∀ wx, Calls Try.prog 58 #[.agg #[.int .i64 r.op.kind, .int .i64 r.op.at', .string r.op.S, .string r.op.old]] wx fun e w' => e = .returned (.bool (chkB r.op)) ∧ Below wx.heap.size wx w') := fun wx => rchk_any r.op wx ho
  obtain ⟨W, HW⟩ : ∃ W, Hid (W = w.alloc (.cells (refCells r v u) 43)) := ⟨_, rfl⟩
  have HB : Hid (Below w.heap.size w W ∧ w.heap.size < W.heap.size ∧ BlkR W w.heap.size (refCells r v u) 43) := by rw [HW.out]; exact ⟨(Below.refl _ _).alloc (Nat.le_refl _) _, by simp, rbox _⟩
  have HPAR : Hid (refCells r v u = #[.int .i64 r.kind, .int .i64 r.tx, .int .u64 r.prev, .int .u64 r.next, .int .u32 r.page, .int .i64 r.op.kind, .int .i64 r.op.at', .string r.op.S, .string r.op.old, .int .i64 r.undo, .int .i64 r.index, .string r.key, .int .u32 r.rpage, .int .i64 r.rslot, .bool r.live, v, u]) := rfl
  unfold rchangeB at HR
  by_cases hpz : r.page = 0
  · have hR : R = false := by rw [← HR.out, hpz]; rfl
    subst hR
    have hpe : ((r.page : Int) == 0) = true := by rw [hpz]; rfl
    clear hpz
    rw [HPAR.out]
    go_enter Try.func32, Try.ntmps32
    go_upto_region 1 with fail
    rw [← HPAR.out, show w.alloc (.cells (refCells r v u) 43) = W from HW.out.symm]
    obtain ⟨z0, z1, z2, z3, z4, z5, z6, z7, z8, z9, z10, z11, z12, z13, z14, z15, z16⟩ := out_cells HB.out.2.2
    clear HW
    go_wp2
    go_ret
    exact ⟨rfl, HB.out.1⟩
  · have hpe : ((r.page : Int) == 0) = false := by rw [beq_eq_false_iff_ne]; omega
    have HR2 : Hid ((chkB r.op && (decide (0 ≤ r.undo ∧ r.undo ≤ 2) && (if r.undo = 2 then decide (0 ≤ r.index ∧ r.index ≤ 65535) && (decide (r.key.size ≤ 64) && decide (0 ≤ r.rslot ∧ r.rslot ≤ 65535)) else decide (r.index = 0) && (decide (r.key.size = 0) && (decide (r.rpage = 0) && (decide (r.rslot = 0) && !r.live)))))) = R) := by
      have := HR.out
      rw [show decide (r.page ≠ 0) = true from by simpa using hpz, Bool.true_and] at this
      exact this
    clear HR hpz
    obtain ⟨X, HX⟩ : ∃ X, Hid (chkB r.op = X) := ⟨_, rfl⟩
    rw [HX.out] at HCK HR2
    rw [HPAR.out]
    go_enter Try.func32, Try.ntmps32
    go_upto_region 1 with fail
    rw [← HPAR.out, show w.alloc (.cells (refCells r v u) 43) = W from HW.out.symm]
    obtain ⟨z0, z1, z2, z3, z4, z5, z6, z7, z8, z9, z10, z11, z12, z13, z14, z15, z16⟩ := out_cells HB.out.2.2
    clear HW
    go_wp2_with fail
    refine (HCK.out _).mono ?_
    rintro e w1 ⟨rfl, b1⟩
    have hB1 : BlkR w1 w.heap.size (refCells r v u) 43 := HB.out.2.2.same (b1.block _ HB.out.2.1)
    have HBL := hidr (below_chain HB.out.1 b1)
    clear z0 z1 z2 z3 z4 z5 z6 z7 z8 z9 z10 z11 z12 z13 z14 z15 z16 HCK b1 HB
    obtain ⟨z0, z1, z2, z3, z4, z5, z6, z7, z8, z9, z10, z11, z12, z13, z14, z15, z16⟩ := out_cells hB1
    clear hB1
    cases X with
    | false =>
      have hR : R = false := by rw [← HR2.out]; rfl
      subst hR
      go_wp2
      go_ret
      exact ⟨rfl, HBL.out⟩
    | true =>
      rw [Bool.true_and] at HR2
      by_cases hu2 : r.undo = 2
      · have HR3 : Hid (R = (decide (0 ≤ r.index ∧ r.index ≤ 65535) && (decide (r.key.size ≤ 64) && decide (0 ≤ r.rslot ∧ r.rslot ≤ 65535)))) := by
          show _ = _
          rw [← HR2.out, if_pos hu2, hu2]; rfl
        clear HR2
        rw [hu2] at z9
        clear hu2
        go_wp2
        all_goals
          go_ret
          refine ⟨ret_bool ?_, HBL.out⟩
          rw [HR3.out, Bool.eq_iff_iff]
          try simp only [tl_nil_eq] at *
          simp only [empty_size_eq, ba_empty_eq, Bool.and_eq_true, decide_eq_true_eq, Bool.false_eq_true, bne_iff_ne, beq_iff_eq, ne_eq, Bool.not_eq_true', decide_eq_false_iff_not]
          constructor <;> intro hh <;> first | exact hh.elim | omega
      · have HR3 : Hid (R = (decide (0 ≤ r.undo ∧ r.undo ≤ 2) && (decide (r.index = 0) && (decide (r.key.size = 0) && (decide (r.rpage = 0) && (decide (r.rslot = 0) && !r.live)))))) := by
          show _ = _
          rw [← HR2.out, if_neg hu2]
        clear HR2
        have hu2' : (r.undo == 2) = false := by rw [beq_eq_false_iff_ne]; exact hu2
        cases hl : r.live with
        | true =>
          rw [hl] at HR3 z14
          have HR4 : Hid (R = false) := by show _ = _; rw [HR3.out]; simp
          clear HR3
          go_wp2
          all_goals
            go_ret
            refine ⟨ret_bool ?_, HBL.out⟩
            rw [HR4.out]
        | false =>
          rw [hl] at HR3 z14
          go_wp2
          all_goals
            go_ret
            refine ⟨ret_bool ?_, HBL.out⟩
            rw [HR3.out, Bool.eq_iff_iff]
            try simp only [tl_nil_eq] at *
            simp only [empty_size_eq, ba_empty_eq, Bool.and_eq_true, decide_eq_true_eq, Bool.false_eq_true, bne_iff_ne, beq_iff_eq, ne_eq, Bool.not_eq_true', decide_eq_false_iff_not, Bool.not_false, and_true, true_iff, false_iff]
            first | omega | (constructor <;> intro hh <;> first | exact hh.elim | omega)

end Go.Proofs.Ytndfjjcflbpdnaa
