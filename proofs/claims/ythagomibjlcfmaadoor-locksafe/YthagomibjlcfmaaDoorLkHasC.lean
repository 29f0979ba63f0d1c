/-
  The walk of Has.
-/
import Derived.Test.YthagomibjlcfmaaDoorLkTabC
import Derived.Deep.RegionHeld3
namespace Go.Proofs.YthagomibjlcfmaaDoor
open Go.RowKit
set_option linter.unusedVariables false
set_option linter.unusedSimpArgs false

set_option maxHeartbeats 1600000 in
set_option maxRecDepth 20000 in
theorem has_any {S : Nat → Prop} {w : World} {b : Nat} {T : Tab} (h : IsTab S w b T) (tx : Int) (n : NameV) (l : Lit) (hn : NKey n l) :
    Calls Tryd.prog 14 #[ptr b, .int .i64 tx, nval n] w fun e w' => e = .returned (.int .i64 (oneF (T.Q n) tx).2.1) ∧ Below w.heap.size w w' := by
  obtain ⟨bq, bw, DQ, DW, h⟩ := h
  obtain ⟨n0, n1, n2, n3⟩ := n
  have W1 : Below w.heap.size w (w.alloc (.cells #[.int .i64 n0, .int .i64 n1, .int .u32 n2, .int .i64 n3] 33)).drew := ((Below.refl _ _).alloc (Nat.le_refl _) _).drew
  have hd := h.below W1
  have HLK : (Instr.lookup 52 (.map (some bq)) (.agg #[.int .i64 n0, .int .i64 n1, .int .u32 n2, .int .i64 n3]) false).run Tryd.prog (w.alloc (.cells #[.int .i64 n0, .int .i64 n1, .int .u32 n2, .int .i64 n3] 33)).drew = .ok (getV DQ l nilS) (w.alloc (.cells #[.int .i64 n0, .int .i64 n1, .int .u32 n2, .int .i64 n3] 33)).drew := hd.mq.look nameKeyed Tryd.underlying52 (zeroQueue _) hn
  have ho := one_any (hd.valq _ l hn (fun x => x)) tx
  have hb0 := (h.below ((Below.refl w.heap.size w).alloc (Nat.le_refl _) (.cells #[.int .i64 n0, .int .i64 n1, .int .u32 n2, .int .i64 n3] 33))).c0
  have hblt := h.lt b h.sb
  obtain ⟨q, Hq⟩ : ∃ q, Hid (oneF (T.Q (n0, n1, n2, n3)) tx = q) := ⟨_, rfl⟩
  rw [Hq.out] at ho ⊢
  obtain ⟨q0, q1, q2, q3⟩ := q
  unfold pval at ho
  simp only at ho ⊢
  have hbx : (w.alloc (.cells #[.int .i64 n0, .int .i64 n1, .int .u32 n2, .int .i64 n3] 33)).drew.heap[w.heap.size]? = some (.cells #[.int .i64 n0, .int .i64 n1, .int .u32 n2, .int .i64 n3] 33) := heap_alloc_new w _
  have hd1 : Hid (Calls Tryd.prog 23 #[getV DQ l nilS, .int .i64 tx] (w.alloc (.cells #[.int .i64 n0, .int .i64 n1, .int .u32 n2, .int .i64 n3] 33)).drew fun e w' => e = .returned (.agg #[.int .i64 q0, .int .i64 q1, .int .i64 q2, .bool q3]) ∧ ((w'.cell? ⟨w.heap.size, 0, none⟩ = some (.int .i64 n0) ∧ w'.cell? ⟨w.heap.size, 1, none⟩ = some (.int .i64 n1) ∧ w'.cell? ⟨w.heap.size, 2, none⟩ = some (.int .u32 n2) ∧ w'.cell? ⟨w.heap.size, 3, none⟩ = some (.int .i64 n3)) ∧ w'.cell? ⟨b, 0, none⟩ = some (.map (some bq))) ∧ Hid (Below w.heap.size w w')) := by
    refine ho.mono ?_
    rintro e w' ⟨rfl, b1⟩
    have x1 := (b1.block w.heap.size (by simp [World.drew])).trans hbx
    refine ⟨rfl, ⟨⟨by simp [World.cell?, x1], by simp [World.cell?, x1], by simp [World.cell?, x1], by simp [World.cell?, x1]⟩, (hd.below b1).c0⟩, W1.trans (b1.mono W1.size)⟩
  have hfld : ∀ wx : World, (Instr.field 64 (.agg #[.int .i64 q0, .int .i64 q1, .int .i64 q2, .bool q3]) 1).run Tryd.prog wx = .ok (.int .i64 q1) wx := fun wx => by
    first
      | rfl
      | kernel_rfl
      | (simp [Instr.field, run_underlying Tryd.underlying64, go_sem]; done)
  unfold ptr nval
  simp only
  clear h hd ho hbx W1 hn Hq
  generalize getV DQ l nilS = V at *
  go_enter Tryd.func14, Tryd.ntmps14
  go_wp2_with fail
  go_region_held3 (fun w' => (w'.cell? ⟨w.heap.size, 0, none⟩ = some (.int .i64 n0) ∧ w'.cell? ⟨w.heap.size, 1, none⟩ = some (.int .i64 n1) ∧ w'.cell? ⟨w.heap.size, 2, none⟩ = some (.int .u32 n2) ∧ w'.cell? ⟨w.heap.size, 3, none⟩ = some (.int .i64 n3)) ∧ w'.cell? ⟨b, 0, none⟩ = some (.map (some bq))) (first | go_keep | exact sb)
    (first | (go_at_call 23; refine hd1.out.mono ?_; rintro x wb ⟨rfl, sb, HB⟩))
  go_wp2
  go_ret
  exact ⟨rfl, HB.out⟩

end Go.Proofs.YthagomibjlcfmaaDoor
