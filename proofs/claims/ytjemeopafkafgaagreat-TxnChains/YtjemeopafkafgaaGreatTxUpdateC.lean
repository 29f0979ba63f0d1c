/-
  The walks of txn.update and txn.undoable.
-/
import Derived.Test.YtjemeopafkafgaaGreatTxMarkJ
namespace Go.Proofs.YtjemeopafkafgaaGreat
open Go.RowKit Go.Sort
set_option linter.unusedVariables false
set_option linter.unusedSimpArgs false

/-- A change, as it is handed in. -/
structure ChgV where
  page : Nat
  op : OpV
  undo : Int
  index : Int
  key : ByteArray
  rpage : Nat
  rslot : Int
  live : Bool

def ChgV.cells (c : ChgV) : Array Value := #[.int .u32 c.page, .int .i64 c.op.kind, .int .i64 c.op.at', .string c.op.S, .string c.op.old, .int .i64 c.undo, .int .i64 c.index, .string c.key, .int .u32 c.rpage, .int .i64 c.rslot, .bool c.live]

/-- Its record. -/
def recU (t : MtV) (c : ChgV) : RecV := ⟨1, t.tx, t.last, 0, c.page, c.op, c.undo, c.index, c.key, c.rpage, c.rslot, c.live, [], []⟩

theorem oper_storeRow {P : Program} {o : Oper} {a : Act} {Q : Exit → Act → World → Prop} {W : World} {K : Act → World → Prop} (x y : Operand) (t : TypeId) (ho : o.op = .store t x y) (hdst : o.dst = none) (b : Nat) (hx : a.eval x = .pointer (some ⟨b, 0, none⟩)) (c old : Array Value) (hy : a.eval y = .agg c) (t' : TypeId) (hb : W.heap[b]? = some (.cells old t' (0, 0)))
    (hi : (P.info? t).map (·.size) = some c.size) (ho' : old.size = c.size) (h1 : c.all (·.oneCell') = true) (h : K a (W.setRow b c)) : Oper.wp P o a W K Q := by
  have hr := run_storeVar_row (P := P) W b t' t old c hb hi ho' h1
  unfold Oper.wp execOp
  simp only [ho, hx, hy, Instr.storeAt, Instr.sureAddr, Sem.run_bind, Sem.run_pure, Result.andThen_ok, hr]
  unfold Oper.upon
  simpa only [hdst, Act.put] using h

set_option maxHeartbeats 3200000 in
set_option maxRecDepth 20000 in
theorem update_any {S : Nat → Prop} {w : World} {b : Nat} {t : MtV} (h : MtAt S w b t) (c : ChgV) :
    Calls Tryz.prog 51 #[.pointer (some ⟨b, 0, none⟩), .agg c.cells] w fun e w' => e = .returned (.agg ((recU t c).cells none none 0 0)) ∧ Below w.heap.size w w' := by
  have hbl : b < w.heap.size := h.lt b h.sb
  obtain ⟨W1, HW1⟩ : ∃ W, Hid (W = w.alloc (.cells c.cells 64)) := ⟨_, rfl⟩
  have b1 : Below w.heap.size w W1 := by rw [HW1.out]; exact (Below.refl _ _).alloc (Nat.le_refl _) _
  have x1 : Blk W1 w.heap.size c.cells 64 := by rw [HW1.out]; exact Blk.made _ _ _
  have z1 : W1.heap.size = w.heap.size + 1 := by rw [HW1.out]; simp
  obtain ⟨W, HW⟩ : ∃ W, Hid (W = W1.alloc (.cells #[.int .i64 0, .int .i64 0, .int .u64 0, .int .u64 0, .int .u32 0, .int .i64 0, .int .i64 0, .string ⟨#[]⟩, .string ⟨#[]⟩, .int .i64 0, .int .i64 0, .string ⟨#[]⟩, .int .u32 0, .int .i64 0, .bool false, .slice none 0 0, .slice none 0 0] 56)) := ⟨_, rfl⟩
  have b2 : Below W1.heap.size W1 W := by rw [HW.out]; exact (Below.refl _ _).alloc (Nat.le_refl _) _
  have xR : Blk W W1.heap.size #[.int .i64 0, .int .i64 0, .int .u64 0, .int .u64 0, .int .u32 0, .int .i64 0, .int .i64 0, .string ⟨#[]⟩, .string ⟨#[]⟩, .int .i64 0, .int .i64 0, .string ⟨#[]⟩, .int .u32 0, .int .i64 0, .bool false, .slice none 0 0, .slice none 0 0] 56 := by rw [HW.out]; exact Blk.made _ _ _
  have xC : Blk W w.heap.size c.cells 64 := x1.same (b2.block _ x1.lt)
  have bW : Below w.heap.size w W := below_chain b1 b2
  have hT := h.same (fun i hi => bW.block i (h.lt i hi)) bW.size
  have hblW : b < W.heap.size := Nat.lt_of_lt_of_le hbl bW.size
  have c0 : ∀ dd os, (grow (redrawn W dd) os).cell? ⟨b, 0, none⟩ = some (.int .i64 t.tx) := fun dd os => ((below_regrown W dd os).cell (p := ⟨b, 0, none⟩) hblW).trans hT.cells.c0
  have c2 : ∀ dd os, (grow (redrawn W dd) os).cell? ⟨b, 2, none⟩ = some (.int .u64 t.last) := fun dd os => ((below_regrown W dd os).cell (p := ⟨b, 2, none⟩) hblW).trans hT.cells.c2
  have e0 : ∀ dd os, (grow (redrawn W dd) os).cell? ⟨w.heap.size, 0, none⟩ = some (.int .u32 c.page) := fun dd os => ((below_regrown W dd os).cell (p := ⟨w.heap.size, 0, none⟩) xC.lt).trans (xC.cell 0)
  have e1 : ∀ dd os, (grow (redrawn W dd) os).cell? ⟨w.heap.size, 1, none⟩ = some (.int .i64 c.op.kind) := fun dd os => ((below_regrown W dd os).cell (p := ⟨w.heap.size, 1, none⟩) xC.lt).trans (xC.cell 1)
  have e2 : ∀ dd os, (grow (redrawn W dd) os).cell? ⟨w.heap.size, 2, none⟩ = some (.int .i64 c.op.at') := fun dd os => ((below_regrown W dd os).cell (p := ⟨w.heap.size, 2, none⟩) xC.lt).trans (xC.cell 2)
  have e3 : ∀ dd os, (grow (redrawn W dd) os).cell? ⟨w.heap.size, 3, none⟩ = some (.string c.op.S) := fun dd os => ((below_regrown W dd os).cell (p := ⟨w.heap.size, 3, none⟩) xC.lt).trans (xC.cell 3)
  have e4 : ∀ dd os, (grow (redrawn W dd) os).cell? ⟨w.heap.size, 4, none⟩ = some (.string c.op.old) := fun dd os => ((below_regrown W dd os).cell (p := ⟨w.heap.size, 4, none⟩) xC.lt).trans (xC.cell 4)
  have e5 : ∀ dd os, (grow (redrawn W dd) os).cell? ⟨w.heap.size, 5, none⟩ = some (.int .i64 c.undo) := fun dd os => ((below_regrown W dd os).cell (p := ⟨w.heap.size, 5, none⟩) xC.lt).trans (xC.cell 5)
  have e6 : ∀ dd os, (grow (redrawn W dd) os).cell? ⟨w.heap.size, 6, none⟩ = some (.int .i64 c.index) := fun dd os => ((below_regrown W dd os).cell (p := ⟨w.heap.size, 6, none⟩) xC.lt).trans (xC.cell 6)
  have e7 : ∀ dd os, (grow (redrawn W dd) os).cell? ⟨w.heap.size, 7, none⟩ = some (.string c.key) := fun dd os => ((below_regrown W dd os).cell (p := ⟨w.heap.size, 7, none⟩) xC.lt).trans (xC.cell 7)
  have e8 : ∀ dd os, (grow (redrawn W dd) os).cell? ⟨w.heap.size, 8, none⟩ = some (.int .u32 c.rpage) := fun dd os => ((below_regrown W dd os).cell (p := ⟨w.heap.size, 8, none⟩) xC.lt).trans (xC.cell 8)
  have e9 : ∀ dd os, (grow (redrawn W dd) os).cell? ⟨w.heap.size, 9, none⟩ = some (.int .i64 c.rslot) := fun dd os => ((below_regrown W dd os).cell (p := ⟨w.heap.size, 9, none⟩) xC.lt).trans (xC.cell 9)
  have e10 : ∀ dd os, (grow (redrawn W dd) os).cell? ⟨w.heap.size, 10, none⟩ = some (.bool c.live) := fun dd os => ((below_regrown W dd os).cell (p := ⟨w.heap.size, 10, none⟩) xC.lt).trans (xC.cell 10)
  have HPAR : Hid (c.cells = #[.int .u32 c.page, .int .i64 c.op.kind, .int .i64 c.op.at', .string c.op.S, .string c.op.old, .int .i64 c.undo, .int .i64 c.index, .string c.key, .int .u32 c.rpage, .int .i64 c.rslot, .bool c.live]) := rfl
  have HXR := hidx xR
  have HBW := hidx bW
  have HZ := hidx z1
  clear h hT b1 b2 x1 xC xR bW hbl hblW z1
  rw [HPAR.out]
  go_enter Tryz.func51, Tryz.ntmps51
  go_upto_region 1 with fail
  rw [← HPAR.out, ← HW1.out, ← HW.out]
  clear HW HW1 HPAR
  refine wp_region_quiet_last { dst := none, op := Op.move (Operand.tmp 0), type := 0, pos := "", after := #[], guard := none } xmixed rfl (by kernel_rfl) (by kernel_rfl) ?_
  simp only [List.dropLast_cons_cons, List.dropLast_singleton, List.getLast?_cons_cons, List.getLast?_singleton, Option.getD_some]
  iterate 23 (quiet_step (fail))
  refine wpQuiet_nil ?_
  intro w5 hw'
  obtain ⟨⟨dq, osq⟩, hw''⟩ := hw'
  have b5 := below_regrown W dq osq
  rw [← hw''] at b5
  have x5 : w5.heap[w.heap.size + 1]? = some (.cells #[.int .i64 0, .int .i64 0, .int .u64 0, .int .u64 0, .int .u32 0, .int .i64 0, .int .i64 0, .string ⟨#[]⟩, .string ⟨#[]⟩, .int .i64 0, .int .i64 0, .string ⟨#[]⟩, .int .u32 0, .int .i64 0, .bool false, .slice none 0 0, .slice none 0 0] 56 (0, 0)) := by rw [← HZ.out]; exact HXR.out.same (b5.block _ HXR.out.lt)
  have HF : Hid (Below w.heap.size w (w5.setRow (w.heap.size + 1) ((recU t c).cells none none 0 0))) := by
    show Below _ _ _
    exact below_setRow (below_chain HBW.out b5) (by omega) _
  obtain ⟨WX, HWX⟩ : ∃ WX, Hid (WX = w5.setRow (w.heap.size + 1) ((recU t c).cells none none 0 0)) := ⟨_, rfl⟩
  have hb : BlkR WX (w.heap.size + 1) (refCells (recU t c) (.slice none 0 0) (.slice none 0 0)) 56 := by rw [HWX.out]; exact setRow_heap w5 _ _ _ _ _ x5
  rw [← HWX.out] at HF
  clear hw'' c0 c2 e0 e1 e2 e3 e4 e5 e6 e7 e8 e9 e10 b5 HBW HXR
  show Oper.wp _ _ _ _ _ _
  refine oper_storeRow _ _ _ rfl rfl (w.heap.size + 1) rfl ((recU t c).cells none none 0 0) _ rfl _ x5 (by kernel_rfl) rfl (by simp [RecV.cells, recU, Value.oneCell']) ?_
  rw [← HWX.out]
  obtain ⟨z0, z1, z2, z3, z4, z5, z6, z7, z8, z9, z10, z11, z12, z13, z14, z15, z16⟩ := out_cells hb
  clear hb x5 HWX
  go_wp2_with fail
  refine bodyPost_ret (v := .agg (refCells (recU t c) (.slice none 0 0) (.slice none 0 0))) (by simp [results, Tryz.results51, go_sem, z0, z1, z2, z3, z4, z5, z6, z7, z8, z9, z10, z11, z12, z13, z14, z15, z16, refCells]) rfl ?_
  exact ⟨rfl, HF.out⟩

set_option maxHeartbeats 3200000 in
set_option maxRecDepth 20000 in
theorem undoable_any (r : RecV) (ta da : Option Addr) (tc dc : Nat) (w : World) :
    Calls Tryz.prog 53 #[.agg (r.cells ta da tc dc)] w fun e w' => e = .returned (.bool (decide (r.kind = 1 ∧ r.undo ≠ 0))) ∧ Below w.heap.size w w' := by
  unfold RecV.cells
  by_cases hk : r.kind = 1
  · by_cases hu : r.undo = 0
    · rw [decide_eq_false (fun hh => hh.2 hu)]
      go_enter Tryz.func53, Tryz.ntmps53
      go_wp2
      go_ret
      exact ⟨by first | rfl | simp, (Below.refl _ _).alloc (Nat.le_refl _) _⟩
    · rw [decide_eq_true ⟨hk, hu⟩]
      go_enter Tryz.func53, Tryz.ntmps53
      go_wp2
      go_ret
      exact ⟨by first | rfl | (simp; done) | (simp; exact hu), (Below.refl _ _).alloc (Nat.le_refl _) _⟩
  · rw [decide_eq_false (fun hh => hk hh.1)]
    go_enter Tryz.func53, Tryz.ntmps53
    go_wp2
    go_ret
    exact ⟨by first | rfl | simp, (Below.refl _ _).alloc (Nat.le_refl _) _⟩

end Go.Proofs.YtjemeopafkafgaaGreat
