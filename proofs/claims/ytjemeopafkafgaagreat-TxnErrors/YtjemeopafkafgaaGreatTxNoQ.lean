/-
  The manager's calls where there is no such transaction, and of a nil manager.
  The calls of a nil manager that TxNo lacks.
  Finish, Abort, Rollback and Load of a manager in which a transaction is under way, where they refuse.
-/
import Derived.Test.YtjemeopafkafgaaGreatTxNextQ
import Derived.Test.YtjemeopafkafgaaGreatTxUpdateV
import Derived.Test.YtjemeopafkafgaaGreatWalRoomQ
namespace Go.Proofs.YtjemeopafkafgaaGreat
open Go.RowKit Go.Sort
set_option linter.unusedVariables false
set_option linter.unusedSimpArgs false

/-- find tells an error. -/
def FindNo (rv : Value) (n : Int) (E : Int) (w : World) : Prop := Calls Tryz.prog 50 #[rv, .int .i64 n] w fun r w' => r = .returned (.tuple #[.pointer none, .int .i64 E]) ∧ w = w'

theorem find_nil (n : Int) (w : World) : FindNo (.pointer none) n 1 w := by
  unfold FindNo
  go_enter Tryz.func50, Tryz.ntmps50
  go_wp2
  go_ret2
  exact ⟨rfl, rfl⟩

section
variable {rv : Value} {n E : Int} {w : World}

theorem save_no (h : FindNo rv n E w) (hE : (E == 0) = false) :
    Calls Tryz.prog 15 #[rv, .int .i64 n] w fun e w' => e = .returned (.tuple #[.int .u64 0, .int .i64 E]) ∧ w = w' := by
  have H := hidx h
  clear h
  go_enter Tryz.func15, Tryz.ntmps15
  go_wp2_with fail
  refine H.out.mono ?_
  rintro e w1 ⟨rfl, rfl⟩
  go_wp2
  go_ret2
  exact ⟨rfl, rfl⟩

theorem commit_no (h : FindNo rv n E w) (hE : (E == 0) = false) :
    Calls Tryz.prog 20 #[rv, .int .i64 n] w fun e w' => e = .returned (.int .i64 E) ∧ w = w' := by
  have H := hidx h
  clear h
  go_enter Tryz.func20, Tryz.ntmps20
  go_wp2_with fail
  refine H.out.mono ?_
  rintro e w1 ⟨rfl, rfl⟩
  go_wp2
  go_ret
  exact ⟨rfl, rfl⟩

theorem finish_no (h : FindNo rv n E w) (hE : (E == 0) = false) :
    Calls Tryz.prog 23 #[rv, .int .i64 n] w fun e w' => e = .returned (.int .i64 E) ∧ w = w' := by
  have H := hidx h
  clear h
  go_enter Tryz.func23, Tryz.ntmps23
  go_wp2_with fail
  refine H.out.mono ?_
  rintro e w1 ⟨rfl, rfl⟩
  go_wp2
  go_ret
  exact ⟨rfl, rfl⟩

theorem abort_no (h : FindNo rv n E w) (hE : (E == 0) = false) (fv : Value) :
    Calls Tryz.prog 21 #[rv, .int .i64 n, fv] w fun e w' => e = .returned (.int .i64 E) ∧ w = w' := by
  have H := hidx h
  clear h
  go_enter Tryz.func21, Tryz.ntmps21
  go_wp2_with fail
  refine H.out.mono ?_
  rintro e w1 ⟨rfl, rfl⟩
  go_wp2
  go_ret
  exact ⟨rfl, rfl⟩

theorem roll_no (h : FindNo rv n E w) (hE : (E == 0) = false) (to' : Nat) (fv : Value) :
    Calls Tryz.prog 22 #[rv, .int .i64 n, .int .u64 to', fv] w fun e w' => e = .returned (.int .i64 E) ∧ w = w' := by
  have H := hidx h
  clear h
  go_enter Tryz.func22, Tryz.ntmps22
  go_wp2_with fail
  refine H.out.mono ?_
  rintro e w1 ⟨rfl, rfl⟩
  go_wp2
  go_ret
  exact ⟨rfl, rfl⟩

theorem top_no (h : FindNo rv n E w) (hE : (E == 0) = false) (at' : Nat) :
    Calls Tryz.prog 16 #[rv, .int .i64 n, .int .u64 at'] w fun e w' => e = .returned (.tuple #[.int .u64 0, .int .i64 E]) ∧ w = w' := by
  have H := hidx h
  clear h
  go_enter Tryz.func16, Tryz.ntmps16
  go_wp2_with fail
  refine H.out.mono ?_
  rintro e w1 ⟨rfl, rfl⟩
  go_wp2
  go_ret2
  exact ⟨rfl, rfl⟩

set_option maxHeartbeats 1600000 in
set_option maxRecDepth 20000 in
theorem log_no (pa : Option Addr) (h : ∀ wx, Below w.heap.size w wx → FindNo (.pointer pa) n E wx) (hE : (E == 0) = false) (c : ChgV) :
    Calls Tryz.prog 14 #[.pointer pa, .int .i64 n, .agg c.cells] w fun e w' => e = .returned (.tuple #[.int .u64 0, .int .i64 E]) ∧ Below w.heap.size w w' := by
  obtain ⟨W1, HW1⟩ : ∃ W, Hid (W = w.alloc (.cells #[.pointer pa] 23)) := ⟨_, rfl⟩
  have b1 : Below w.heap.size w W1 := by rw [HW1.out]; exact (Below.refl _ _).alloc (Nat.le_refl _) _
  have x1 : Blk W1 w.heap.size #[.pointer pa] 23 := by rw [HW1.out]; exact Blk.made _ _ _
  obtain ⟨W, HW⟩ : ∃ W, Hid (W = W1.alloc (.cells c.cells 64)) := ⟨_, rfl⟩
  have b2 : Below W1.heap.size W1 W := by rw [HW.out]; exact (Below.refl _ _).alloc (Nat.le_refl _) _
  have xM : Blk W w.heap.size #[.pointer pa] 23 := x1.same (b2.block _ x1.lt)
  have bW : Below w.heap.size w W := below_chain b1 b2
  have HFI := hidx (h W bW)
  have HPAR : Hid (c.cells = #[.int .u32 c.page, .int .i64 c.op.kind, .int .i64 c.op.at', .string c.op.S, .string c.op.old, .int .i64 c.undo, .int .i64 c.index, .string c.key, .int .u32 c.rpage, .int .i64 c.rslot, .bool c.live]) := rfl
  have m0 : W.cell? ⟨w.heap.size, 0, none⟩ = some (.pointer pa) := xM.cell 0
  have HBW := hidx bW
  clear h b1 b2 x1 xM bW
  rw [HPAR.out]
  go_enter Tryz.func14, Tryz.ntmps14
  go_upto_region 1 with fail
  rw [← HPAR.out, ← HW1.out, ← HW.out]
  clear HW HW1
  go_wp2_with fail
  refine HFI.out.mono ?_
  rintro e w2 ⟨rfl, rfl⟩
  clear HFI m0
  go_wp2
  go_ret2
  exact ⟨rfl, HBW.out⟩

/-- State of none. -/
theorem state_no (h : ∀ wx, Below w.heap.size w wx → FindNo rv n E wx) (hE : (E == 0) = false) :
    Calls Tryz.prog 18 #[rv, .int .i64 n] w fun e w' => e = .returned (.tuple #[.agg #[.int .i64 0, .int .i64 0, .int .u64 0, .int .u64 0], .bool false]) ∧ Below w.heap.size w w' := by
  have bW : Below w.heap.size w (w.alloc (.cells #[.int .i64 0, .int .i64 0, .int .u64 0, .int .u64 0] 74)) := (Below.refl _ _).alloc (Nat.le_refl _) _
  have HFI := hidx (h _ bW)
  have HBW := hidx bW
  clear h bW
  go_enter Tryz.func18, Tryz.ntmps18
  go_wp2_with fail
  refine HFI.out.mono ?_
  rintro e w2 ⟨rfl, rfl⟩
  go_wp2
  refine bodyPost_ret (v := .tuple #[.agg #[.int .i64 0, .int .i64 0, .int .u64 0, .int .u64 0], .bool false]) (by simp [results, Tryz.results18, go_sem]) rfl ?_
  exact ⟨rfl, HBW.out⟩

end

end Go.Proofs.YtjemeopafkafgaaGreat

namespace Go.Proofs.YtjemeopafkafgaaGreat
open Go.RowKit Go.Sort
set_option linter.unusedVariables false
set_option linter.unusedSimpArgs false

section
variable {w : World}

theorem begin_nil (w : World) : Calls Tryz.prog 13 #[.pointer none] w fun e w' => e = .returned (.tuple #[.int .i64 0, .int .i64 1]) ∧ w = w' := by
  go_enter Tryz.func13, Tryz.ntmps13
  go_wp2
  go_ret2
  exact ⟨rfl, rfl⟩

theorem load_nil (next : Int) (w : World) : Calls Tryz.prog 24 #[.pointer none, .slice none 0 0, .int .i64 next] w fun e w' => e = .returned (.int .i64 1) ∧ w = w' := by
  go_enter Tryz.func24, Tryz.ntmps24
  go_wp2
  go_ret
  exact ⟨rfl, rfl⟩

theorem all_nil (w : World) : Calls Tryz.prog 25 #[.pointer none] w fun e w' => e = .returned (.slice none 0 0) ∧ w = w' := by
  go_enter Tryz.func25, Tryz.ntmps25
  go_wp2
  go_ret
  exact ⟨rfl, rfl⟩

theorem done_nil (w : World) : Calls Tryz.prog 26 #[.pointer none] w fun e w' => e = .returned (.slice none 0 0) ∧ w = w' := by
  go_enter Tryz.func26, Tryz.ntmps26
  go_wp2
  go_ret
  exact ⟨rfl, rfl⟩

theorem coming_nil (w : World) : Calls Tryz.prog 27 #[.pointer none] w fun e w' => e = .returned (.int .i64 0) ∧ w = w' := by
  go_enter Tryz.func27, Tryz.ntmps27
  go_wp2
  go_ret
  exact ⟨rfl, rfl⟩

theorem pool_nil (w : World) : Calls Tryz.prog 8 #[.pointer none] w fun e w' => e = .returned (.pointer none) ∧ w = w' := by
  go_enter Tryz.func8, Tryz.ntmps8
  go_wp2
  go_ret
  exact ⟨rfl, rfl⟩

theorem tnew_nil (w : World) : Calls Tryz.prog 19 #[.pointer none] w fun e w' => e = .returned (.pointer none) ∧ w = w' := by
  go_enter Tryz.func19, Tryz.ntmps19
  go_wp2
  go_ret
  exact ⟨rfl, rfl⟩

set_option maxHeartbeats 1600000 in
set_option maxRecDepth 20000 in
theorem next_nil (n : Int) (w : World) : Calls Tryz.prog 17 #[.pointer none, .int .i64 n] w fun e w' => e = .returned (.tuple #[.agg (rec0.cells none none 0 0), .int .u64 0, .int .i64 1]) ∧ Below w.heap.size w w' := by
  obtain ⟨W, HW⟩ : ∃ W, Hid (W = w.alloc (.cells zeroCellsR 56)) := ⟨_, rfl⟩
  have bW : Below w.heap.size w W := by rw [HW.out]; exact (Below.refl _ _).alloc (Nat.le_refl _) _
  have xW : BlkR W w.heap.size zeroCellsR 56 := by rw [HW.out]; exact Blk.made _ _ _
  have HFI := hidx (find_nil n W)
  have HBW := hidx bW
  have HXW := hidx xW
  have HZC : Hid (zeroCellsR = #[.int .i64 0, .int .i64 0, .int .u64 0, .int .u64 0, .int .u32 0, .int .i64 0, .int .i64 0, .string ⟨#[]⟩, .string ⟨#[]⟩, .int .i64 0, .int .i64 0, .string ⟨#[]⟩, .int .u32 0, .int .i64 0, .bool false, .slice none 0 0, .slice none 0 0]) := rfl
  clear bW xW
  go_enter Tryz.func17, Tryz.ntmps17
  go_upto_region 1 with fail
  rw [← HZC.out, ← HW.out]
  clear HW HZC
  go_wp2_with fail
  unfold FindNo at HFI
  refine HFI.out.mono ?_
  rintro e w1 ⟨rfl, rfl⟩
  clear HFI
  obtain ⟨WX, HWX⟩ : ∃ WX, Hid (WX = W.setRow w.heap.size zeroCellsR) := ⟨_, rfl⟩
  have hb : BlkR WX w.heap.size (refCells rec0 (.slice none 0 0) (.slice none 0 0)) 56 := by rw [HWX.out]; exact setRow_heap W _ _ _ _ _ HXW.out
  have HF : Hid (Below w.heap.size w WX) := by
    have hsz : WX.heap.size = W.heap.size := by rw [HWX.out]; simp [World.setRow]
    have hoth : ∀ k, k ≠ w.heap.size → WX.heap[k]? = W.heap[k]? := fun k hk => by rw [HWX.out]; exact setRow_other W _ k _ hk
    exact hidx ⟨by rw [HWX.out]; exact HBW.out.os, by rw [HWX.out]; exact HBW.out.tape, by rw [HWX.out]; exact HBW.out.output, by rw [hsz]; exact HBW.out.size, fun i hi => (hoth i (by omega)).trans (HBW.out.block i hi)⟩
  have HBB := hidx hb
  clear hb
  go_upto_region 3 with fail
  refine wp_region_lit ?_
  refine wpList_plain rfl fun K hK => ?_
  go_simp
  refine hK _ _ ?_
  clear hK K
  refine wpList_plain rfl fun K hK => ?_
  go_simp
  refine hK _ _ ?_
  clear hK K
  refine wpList_storeRow rfl _ _ _ rfl rfl w.heap.size rfl zeroCellsR zeroCellsR rfl _ HXW.out (by kernel_rfl) rfl (ref_one rec0 none none 0 0 0 0) ?_
  rw [← HWX.out]
  clear HXW HWX
  obtain ⟨z0, z1, z2, z3, z4, z5, z6, z7, z8, z9, z10, z11, z12, z13, z14, z15, z16⟩ := out_cells HBB.out
  clear HBB
  go_wp2_with fail
  refine bodyPost_ret (v := .tuple #[.agg (refCells rec0 (.slice none 0 0) (.slice none 0 0)), .int .u64 0, .int .i64 1]) (by simp [results, Tryz.results17, go_sem, z0, z1, z2, z3, z4, z5, z6, z7, z8, z9, z10, z11, z12, z13, z14, z15, z16, refCells]) rfl ?_
  exact ⟨rfl, HF.out⟩

end

end Go.Proofs.YtjemeopafkafgaaGreat

namespace Go.Proofs.YtjemeopafkafgaaGreat
open Go.RowKit Go.Sort
set_option linter.unusedVariables false
set_option linter.unusedSimpArgs false

section
variable {w : World} {m p : Nat} {X : Int → Nat} {A : Nat → Prop} {P : PG} {l : LG} {d : DG} {M : MgG}

theorem finish_active (h : MSys w m p X A P l d M) (n : Int) (hn1 : -9223372036854775808 ≤ n) (hn2 : n ≤ 9223372036854775807) {t : MtV} (ht : M.T n = some t) (hst : t.state = 1) :
    Calls Tryz.prog 23 #[.pointer (some ⟨m, 0, none⟩), .int .i64 n] w fun e w' => e = .returned (.int .i64 91) ∧ w = w' := by
  have HFI := hidx (find_yes h n hn1 hn2 ht)
  obtain ⟨S0, hT0, _, _⟩ := h.tx ht
  have c1 : w.cell? ⟨X n, 1, none⟩ = some (.int .i64 1) := by have := hT0.cells.c1; rw [hst] at this; exact this
  clear h ht hst hT0
  go_enter Tryz.func23, Tryz.ntmps23
  go_wp2_with fail
  refine HFI.out.mono ?_
  rintro e w1 ⟨rfl, rfl⟩
  clear HFI
  go_wp2
  go_ret
  exact ⟨rfl, rfl⟩

set_option maxRecDepth 20000 in
theorem abort_nilF (h : MSys w m p X A P l d M) (n : Int) (hn1 : -9223372036854775808 ≤ n) (hn2 : n ≤ 9223372036854775807) {t : MtV} (ht : M.T n = some t) (hst : t.state = 1) :
    Calls Tryz.prog 21 #[.pointer (some ⟨m, 0, none⟩), .int .i64 n, .nilFunc] w fun e w' => e = .returned (.int .i64 1) ∧ w = w' := by
  have HFI := hidx (find_yes h n hn1 hn2 ht)
  obtain ⟨S0, hT0, _, _⟩ := h.tx ht
  have c1 : w.cell? ⟨X n, 1, none⟩ = some (.int .i64 1) := by have := hT0.cells.c1; rw [hst] at this; exact this
  have hnil : ∀ wx : World, (binOp .eql 86 .nilFunc .nilFunc).run Tryz.prog wx = .ok (.bool true) wx := fun _ => rfl
  clear h ht hst hT0
  go_enter Tryz.func21, Tryz.ntmps21
  go_wp2_with fail
  refine HFI.out.mono ?_
  rintro e w1 ⟨rfl, rfl⟩
  clear HFI
  go_wp2
  go_ret
  exact ⟨rfl, rfl⟩

set_option maxRecDepth 20000 in
theorem roll_nilF (h : MSys w m p X A P l d M) (n : Int) (hn1 : -9223372036854775808 ≤ n) (hn2 : n ≤ 9223372036854775807) {t : MtV} (ht : M.T n = some t) (to' : Nat) :
    Calls Tryz.prog 22 #[.pointer (some ⟨m, 0, none⟩), .int .i64 n, .int .u64 to', .nilFunc] w fun e w' => e = .returned (.int .i64 1) ∧ w = w' := by
  have HFI := hidx (find_yes h n hn1 hn2 ht)
  have hnil : ∀ wx : World, (binOp .eql 86 .nilFunc .nilFunc).run Tryz.prog wx = .ok (.bool true) wx := fun _ => rfl
  clear h ht
  go_enter Tryz.func22, Tryz.ntmps22
  go_wp2_with fail
  refine HFI.out.mono ?_
  rintro e w1 ⟨rfl, rfl⟩
  clear HFI
  go_wp2
  go_ret
  exact ⟨rfl, rfl⟩

theorem load_on (h : MSys w m p X A P l d M) (hz : 1 ≤ M.z) (hz2 : M.z ≤ 64) (next : Int) :
    Calls Tryz.prog 24 #[.pointer (some ⟨m, 0, none⟩), .slice none 0 0, .int .i64 next] w fun e w' => e = .returned (.int .i64 1) ∧ w = w' := by
  obtain ⟨tb, c0, c1, c2, c3, _⟩ := h.reads
  have hlen : ∀ ty, (Builtin.len_ #[102] ty #[.map (some tb)]).run Tryz.prog w = .ok (.int .i64 M.z) w := by
    obtain ⟨B, ⟨tb', dn, D, S, hM⟩, _, _⟩ := h.mgr
    have e : tb' = tb := by have := hM.blk.cell 1; rw [c1] at this; simpa using this.symm
    subst e
    intro ty
    have := hM.map.1.len (t := 102) (e := 124) Tryz.underlying102 ty
    rw [hM.map.2] at this
    exact this
  have d1 : decide (0 < (M.z : Int)) = true := by simp; omega
  have d2 : decide (0 < M.z) = true := by simp; omega
  clear h c0 c2 c3
  go_enter Tryz.func24, Tryz.ntmps24
  go_wp2
  go_ret
  exact ⟨rfl, rfl⟩

end

end Go.Proofs.YtjemeopafkafgaaGreat
