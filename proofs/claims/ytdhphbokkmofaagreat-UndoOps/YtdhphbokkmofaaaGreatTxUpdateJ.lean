/-
  The walks of txn.update and txn.undoable.
-/
import Derived.Test.YtdhphbokkmofaaaGreatTxMarkJ
import Derived.Test.YtdhphbokkmofaaaGreatTxChangeC
set_option linter.unusedVariables false
set_option linter.unusedSimpArgs false
namespace Go.Proofs.YtdhphbokkmofaaaGreat
open Go.RowKit Go.Sort

structure ChgV where
  page : Nat
  op : OpV
  undo : Int
  index : Int
  key : ByteArray
  rpage : Nat
  rslot : Int
  live : Bool

def ChgV.cells (c : ChgV) : Array Value := #[.int .u32 c.page, .int .i64 c.op.kind, .int .i64 c.op.at', .string c.op.S, .string c.op.old, .int .i64 c.undo, .int .i64 c.index, .string c.key, .int .u32 c.rpage, .int .i64 c.rslot, .bool c.live]

def recU (t : MtV) (c : ChgV) : RecV := ⟨1, t.tx, t.last, 0, c.page, c.op, c.undo, c.index, c.key, c.rpage, c.rslot, c.live, [], []⟩

theorem oper_storeRow {P : Program} {o : Oper} {a : Act} {Q : Exit → Act → World → Prop} {W : World} {K : Act → World → Prop} (x y : Operand) (t : TypeId) (ho : o.op = .store t x y) (hdst : o.dst = none) (b : Nat) (hx : a.eval x = .pointer (some ⟨b, 0, none⟩)) (c old : Array Value) (hy : a.eval y = .agg c) (t' : TypeId) (hb : W.heap[b]? = some (.cells old t' (0, 0)))
    (hi : (P.info? t).map (·.size) = some c.size) (ho' : old.size = c.size) (h1 : c.all (·.oneCell') = true) (h : K a (W.setRow b c)) : Oper.wp P o a W K Q := by
  have hr := run_storeVar_row (P := P) W b t' t old c hb hi ho' h1
  unfold Oper.wp execOp
  simp only [ho, hx, hy, Instr.storeAt, Instr.sureAddr, Sem.run_bind, Sem.run_pure, Result.andThen_ok, hr]
  unfold Oper.upon
  simpa only [hdst, Act.put] using h

set_option maxHeartbeats 3200000 in
set_option maxRecDepth 20000 in
theorem update_any {S : Nat → Prop} {w : World} {b : Nat} {t : MtV} (h : MtAt S w b t) (c : ChgV) :
    Calls Tryz.prog 129 #[.pointer (some ⟨b, 0, none⟩), .agg c.cells] w fun e w' => e = .returned (.agg ((recU t c).cells none none 0 0)) ∧ Below w.heap.size w w' := by
  have hbl : b < w.heap.size := h.lt b h.sb
  obtain ⟨W1, HW1⟩ : ∃ W, Hid (W = w.alloc (.cells c.cells 88)) := ⟨_, rfl⟩
  have b1 : Below w.heap.size w W1 := by rw [HW1.out]; exact (Below.refl _ _).alloc (Nat.le_refl _) _
  have x1 : Blk W1 w.heap.size c.cells 88 := by rw [HW1.out]; exact Blk.made _ _ _
  have z1 : W1.heap.size = w.heap.size + 1 := by rw [HW1.out]; simp
  obtain ⟨W, HW⟩ : ∃ W, Hid (W = W1.alloc (.cells #[.int .i64 0, .int .i64 0, .int .u64 0, .int .u64 0, .int .u32 0, .int .i64 0, .int .i64 0, .string ⟨#[]⟩, .string ⟨#[]⟩, .int .i64 0, .int .i64 0, .string ⟨#[]⟩, .int .u32 0, .int .i64 0, .bool false, .slice none 0 0, .slice none 0 0] 54)) := ⟨_, rfl⟩
  have b2 : Below W1.heap.size W1 W := by rw [HW.out]; exact (Below.refl _ _).alloc (Nat.le_refl _) _
  have xR : Blk W W1.heap.size #[.int .i64 0, .int .i64 0, .int .u64 0, .int .u64 0, .int .u32 0, .int .i64 0, .int .i64 0, .string ⟨#[]⟩, .string ⟨#[]⟩, .int .i64 0, .int .i64 0, .string ⟨#[]⟩, .int .u32 0, .int .i64 0, .bool false, .slice none 0 0, .slice none 0 0] 54 := by rw [HW.out]; exact Blk.made _ _ _
  have xC : Blk W w.heap.size c.cells 88 := x1.same (b2.block _ x1.lt)
  have bW : Below w.heap.size w W := below_chain b1 b2
  have hT := h.same (fun i hi => bW.block i (h.lt i hi)) bW.size
  have hblW : b < W.heap.size := Nat.lt_of_lt_of_le hbl bW.size
  have c0 : ∀ dd os, (grow (redrawn W dd) os).cell? ⟨b, 0, none⟩ = some (.int .i64 t.tx) := fun dd os => ((below_regrown W dd os).cell (p := ⟨b, 0, none⟩) hblW).trans hT.cells.c0
  have c2 : ∀ dd os, (grow (redrawn W dd) os).cell? ⟨b, 2, none⟩ = some (.int .u64 t.last) := fun dd os => ((below_regrown W dd os).cell (p := ⟨b, 2, none⟩) hblW).trans hT.cells.c2
  have e0 : ∀ dd os, (grow (redrawn W dd) os).cell? ⟨w.heap.size, 0, none⟩ = some (.int .u32 c.page) := fun dd os => ((below_regrown W dd os).cell (p := ⟨w.heap.size, 0, none⟩) xC.lt).trans (xC.cell 0)
  have e1 : ∀ dd os, (grow (redrawn W dd) os).cell? ⟨w.heap.size, 1, none⟩ = some (.int .i64 c.op.kind) := fun dd os => ((below_regrown W dd os).cell (p := ⟨w.heap.size, 1, none⟩) xC.lt).trans (xC.cell 1)
  have e2 : ∀ dd os, (grow (redrawn W dd) os).cell? ⟨w.heap.size, 2, none⟩ = some (.int .i64 c.op.at') := fun dd os => ((below_regrown W dd os).cell (p := ⟨w.heap.size, 2, none⟩) xC.lt).trans (xC.cell 2)
  have e3 : ∀ dd os, (grow (redrawn W dd) os).cell? ⟨w.heap.size, 3, none⟩ = some (.string c.op.S) := fun dd os => ((below_regrown W dd os).cell (p := ⟨w.heap.size, 3, none⟩) xC.lt).trans (xC.cell 3)
  have e4 : ∀ dd os, (grow (redrawn W dd) os).cell? ⟨w.heap.size, 4, none⟩ = some (.string c.op.old) := fun dd os => ((below_regrown W dd os).cell (p := ⟨w.heap.size, 4, none⟩) xC.lt).trans (xC.cell 4)
  have e5 : ∀ dd os, (grow (redrawn W dd) os).cell? ⟨w.heap.size, 5, none⟩ = some (.int .i64 c.undo) := fun dd os => ((below_regrown W dd os).cell (p := ⟨w.heap.size, 5, none⟩) xC.lt).trans (xC.cell 5)
  have e6 : ∀ dd os, (grow (redrawn W dd) os).cell? ⟨w.heap.size, 6, none⟩ = some (.int .i64 c.index) := fun dd os => ((below_regrown W dd os).cell (p := ⟨w.heap.size, 6, none⟩) xC.lt).trans (xC.cell 6)
  have e7 : ∀ dd os, (grow (redrawn W dd) os).cell? ⟨w.heap.size, 7, none⟩ = some (.string c.key) := fun dd os => ((below_regrown W dd os).cell (p := ⟨w.heap.size, 7, none⟩) xC.lt).trans (xC.cell 7)
  have e8 : ∀ dd os, (grow (redrawn W dd) os).cell? ⟨w.heap.size, 8, none⟩ = some (.int .u32 c.rpage) := fun dd os => ((below_regrown W dd os).cell (p := ⟨w.heap.size, 8, none⟩) xC.lt).trans (xC.cell 8)
  have e9 : ∀ dd os, (grow (redrawn W dd) os).cell? ⟨w.heap.size, 9, none⟩ = some (.int .i64 c.rslot) := fun dd os => ((below_regrown W dd os).cell (p := ⟨w.heap.size, 9, none⟩) xC.lt).trans (xC.cell 9)
  have e10 : ∀ dd os, (grow (redrawn W dd) os).cell? ⟨w.heap.size, 10, none⟩ = some (.bool c.live) := fun dd os => ((below_regrown W dd os).cell (p := ⟨w.heap.size, 10, none⟩) xC.lt).trans (xC.cell 10)
  have HPAR : Hid (c.cells = #[.int .u32 c.page, .int .i64 c.op.kind, .int .i64 c.op.at', .string c.op.S, .string c.op.old, .int .i64 c.undo, .int .i64 c.index, .string c.key, .int .u32 c.rpage, .int .i64 c.rslot, .bool c.live]) := rfl
  have HXR := hidx xR
  have HBW := hidx bW
  have HZ := hidx z1
  clear h hT b1 b2 x1 xC xR bW hbl hblW z1
  rw [HPAR.out]
  go_enter Tryz.func129, Tryz.ntmps129
  go_upto_region 1 with fail
  rw [← HPAR.out, ← HW1.out, ← HW.out]
  clear HW HW1 HPAR
  refine wp_region_quiet_last { dst := none, op := Op.move (Operand.tmp 0), type := 0, pos := "", after := #[], guard := none } xmixed rfl (by kernel_rfl) (by kernel_rfl) ?_
  simp only [List.dropLast_cons_cons, List.dropLast_singleton, List.getLast?_cons_cons, List.getLast?_singleton, Option.getD_some]
  iterate 23 (quiet_step (fail))
  refine wpQuiet_nil ?_
  intro w5 hw'
  obtain ⟨⟨dq, osq⟩, hw''⟩ := hw'
  have b5 := below_regrown W dq osq
  rw [← hw''] at b5
  have x5 : w5.heap[w.heap.size + 1]? = some (.cells #[.int .i64 0, .int .i64 0, .int .u64 0, .int .u64 0, .int .u32 0, .int .i64 0, .int .i64 0, .string ⟨#[]⟩, .string ⟨#[]⟩, .int .i64 0, .int .i64 0, .string ⟨#[]⟩, .int .u32 0, .int .i64 0, .bool false, .slice none 0 0, .slice none 0 0] 54 (0, 0)) := by rw [← HZ.out]; exact HXR.out.same (b5.block _ HXR.out.lt)
  have HF : Hid (Below w.heap.size w (w5.setRow (w.heap.size + 1) ((recU t c).cells none none 0 0))) := by
    show Below _ _ _
    exact below_setRow (below_chain HBW.out b5) (by omega) _
  obtain ⟨WX, HWX⟩ : ∃ WX, Hid (WX = w5.setRow (w.heap.size + 1) ((recU t c).cells none none 0 0)) := ⟨_, rfl⟩
  have hb : BlkR WX (w.heap.size + 1) (refCells (recU t c) (.slice none 0 0) (.slice none 0 0)) 54 := by rw [HWX.out]; exact setRow_heap w5 _ _ _ _ _ x5
  rw [← HWX.out] at HF
  clear hw'' c0 c2 e0 e1 e2 e3 e4 e5 e6 e7 e8 e9 e10 b5 HBW HXR
  show Oper.wp _ _ _ _ _ _
  refine oper_storeRow _ _ _ rfl rfl (w.heap.size + 1) rfl ((recU t c).cells none none 0 0) _ rfl _ x5 (by kernel_rfl) rfl (by simp [RecV.cells, recU, Value.oneCell']) ?_
  rw [← HWX.out]
  obtain ⟨z0, z1, z2, z3, z4, z5, z6, z7, z8, z9, z10, z11, z12, z13, z14, z15, z16⟩ := out_cells hb
  clear hb x5 HWX
  go_wp2_with fail
  refine bodyPost_ret (v := .agg (refCells (recU t c) (.slice none 0 0) (.slice none 0 0))) (by simp [results, Tryz.results129, go_sem, z0, z1, z2, z3, z4, z5, z6, z7, z8, z9, z10, z11, z12, z13, z14, z15, z16, refCells]) rfl ?_
  exact ⟨rfl, HF.out⟩

set_option maxHeartbeats 3200000 in
set_option maxRecDepth 20000 in
theorem undoable_any (r : RecV) (ta da : Option Addr) (tc dc : Nat) (w : World) :
    Calls Tryz.prog 130 #[.agg (r.cells ta da tc dc)] w fun e w' => e = .returned (.bool (decide (r.kind = 1 ∧ r.undo ≠ 0))) ∧ Below w.heap.size w w' := by
  unfold RecV.cells
  by_cases hk : r.kind = 1
  · by_cases hu : r.undo = 0
    · rw [decide_eq_false (fun hh => hh.2 hu)]
      go_enter Tryz.func130, Tryz.ntmps130
      go_wp2
      go_ret
      exact ⟨by first | rfl | simp, (Below.refl _ _).alloc (Nat.le_refl _) _⟩
    · rw [decide_eq_true ⟨hk, hu⟩]
      go_enter Tryz.func130, Tryz.ntmps130
      go_wp2
      go_ret
      exact ⟨by first | rfl | (simp; done) | (simp; exact hu), (Below.refl _ _).alloc (Nat.le_refl _) _⟩
  · rw [decide_eq_false (fun hh => hk hh.1)]
    go_enter Tryz.func130, Tryz.ntmps130
    go_wp2
    go_ret
    exact ⟨by first | rfl | simp, (Below.refl _ _).alloc (Nat.le_refl _) _⟩

end Go.Proofs.YtdhphbokkmofaaaGreat

namespace Go.Proofs.YtdhphbokkmofaaaGreat
open Go.RowKit Go.Sort

section
variable {w : World} {m p : Nat} {X : Int → Nat} {A : Nat → Prop} {P : PG} {l : LG} {d : DG} {M : MgG}

set_option maxHeartbeats 3200000 in
set_option maxRecDepth 20000 in
theorem log1_any (h : MSys w m p X A P l d M) (mb sb : Nat) (s : ByteArray) (c0 : w.cell? ⟨mb, 0, none⟩ = some (.pointer (some ⟨m, 0, none⟩))) (c1 : w.cell? ⟨sb, 0, none⟩ = some (.string s)) (h1 : 1 ≤ s.size) (h2 : s.size ≤ 8192) (hn : l.starts.length ≤ 10000000) (hm : s.size + 12 + l.kept + l.bytes.length ≤ 4194304) :
    Calls Tryz.prog 131 #[.pointer (some ⟨mb, 0, none⟩), .pointer (some ⟨sb, 0, none⟩)] w fun e w' => e = .returned (.tuple #[.int .u64 ((l.bytes.length + 1 : Nat) : Int), .int .i64 0]) ∧ ∃ A', MSys w' m p X A' P (putG l s) d M ∧ Moves A A' w w' := by
  have hd : MSys w.drew m p X A P l d M := h.same (fun _ _ => rfl) (Nat.le_refl _)
  have HLG := hidx (mlog_any hd)
  obtain ⟨A1, hS, _, sstep⟩ := hd.sys
  have HAP : Hid (Calls Tryz.prog 132 #[.pointer (some ⟨P.lp, 0, none⟩), .string s] w.drew fun e w' => e = .returned (.tuple #[.int .u64 ((l.bytes.length + 1 : Nat) : Int), .int .i64 0]) ∧ Hid (∃ A', MSys w' m p X A' P (putG l s) d M ∧ Moves A A' w w')) := by
    refine (sys_append hS (by omega) hn (by omega) s h1 h2 hm).mono ?_
    rintro e w' ⟨rfl, A', k1, k2⟩
    obtain ⟨A'', k3, k4⟩ := sstep w' A' _ _ _ k1 k2
    exact ⟨rfl, hidx ⟨A'', k3, (Moves.of_kept ((Kept.refl A w).drew)).trans k4⟩⟩
  clear h hd hS sstep
  go_enter Tryz.func131, Tryz.ntmps131
  go_upto_region 1 with fail
  go_region_law (first
    | (go_simp; go_at_call 56; refine HLG.out.mono ?_; rintro e w3 ⟨rfl, rfl⟩)
    | (go_simp; go_at_call 132; refine HAP.out.mono ?_; rintro e w4 ⟨rfl, HF⟩))
  all_goals
    go_wp2
    go_ret2
    exact ⟨rfl, HF.out⟩

end

end Go.Proofs.YtdhphbokkmofaaaGreat

namespace Go.Proofs.YtdhphbokkmofaaaGreat
open Go.RowKit Go.Sort

def logS (t : MtV) (c : ChgV) : ByteArray := ⟨(encR (recU t c)).toArray⟩

def logT (t : MtV) (c : ChgV) (at' : Nat) : MtV := { t with kept := t.kept + ((logS t c).size + 172), debts := t.debts ++ [⟨at', owedN t.debts (standN t.debts at') + ((logS t c).size + 172)⟩], last := at', next := at' }

section
variable {w : World} {m p : Nat} {X : Int → Nat} {A : Nat → Prop} {P : PG} {l : LG} {d : DG} {M : MgG}

set_option maxHeartbeats 6400000 in
set_option maxRecDepth 20000 in
theorem tlog_ok (h : MSys w m p X A P l d M) (n : Int) (hn1 : -9223372036854775808 ≤ n) (hn2 : n ≤ 9223372036854775807) {t : MtV} (ht : M.T n = some t) (hst : t.state = 1) (c : ChgV) (hok : ∀ wx, (recU t c).Ok wx none none) (hmay : mayR (recU t c) = true) (hun : c.undo ≠ 0) (hsz : 1 ≤ (logS t c).size ∧ (logS t c).size ≤ 8192) (h1 : 1 ≤ c.page) (h2 : c.page ≤ 2048) {f : FrV} (hf : P.F c.page = some f) (hfit : f.sh.Fits) (ho : c.op.Ok) (hc : chkB c.op = true) {q : SheetV} (hd : ChangeDoes f.sh c.op 0 q)
    (hq : ({ q with lsn := l.bytes.length + 1 } : SheetV).Fits) (hqn : q.num = c.page) (hqs : q.slots ≠ []) (hz : P.z ≤ 1000000) (hs : l.starts.length ≤ 10000000) (hl : (logS t c).size + 12 + (l.kept + ((logS t c).size + 172)) + l.bytes.length ≤ 4194304) (hk : t.kept ≤ 10000000) (hr : RisesD t.debts) (hdl : t.debts.length ≤ 1000000) (hod : owedN t.debts (standN t.debts (l.bytes.length + 1)) ≤ 100000000) :
    Calls Tryz.prog 75 #[.pointer (some ⟨m, 0, none⟩), .int .i64 n, .agg c.cells] w fun e w' => e = .returned (.tuple #[.int .u64 ((l.bytes.length + 1 : Nat) : Int), .int .i64 0]) ∧ ∃ A', MSys w' m p X A' (putP P { q with lsn := l.bytes.length + 1 }) (putG { l with kept := l.kept + ((logS t c).size + 172) } (logS t c)) d (M.set n (logT t c (l.bytes.length + 1))) ∧ Moves A A' w w' := by
  have hb : l.bytes.length ≤ 4194304 := by omega
  have HA := hidx (fun (k : Nat) (hk : w.heap.size ≤ k) (x : A k) => by have := h.lt k x; omega : ∀ k, w.heap.size ≤ k → A k → False)
  obtain ⟨W1, HW1⟩ : ∃ W, Hid (W = w.alloc (.cells #[.pointer (some ⟨m, 0, none⟩)] 23)) := ⟨_, rfl⟩
  have b1 : Below w.heap.size w W1 := by rw [HW1.out]; exact (Below.refl _ _).alloc (Nat.le_refl _) _
  have x1 : Blk W1 w.heap.size #[.pointer (some ⟨m, 0, none⟩)] 23 := by rw [HW1.out]; exact Blk.made _ _ _
  have z1 : W1.heap.size = w.heap.size + 1 := by rw [HW1.out]; simp
  obtain ⟨W, HW⟩ : ∃ W, Hid (W = W1.alloc (.cells c.cells 88)) := ⟨_, rfl⟩
  have b2 : Below W1.heap.size W1 W := by rw [HW.out]; exact (Below.refl _ _).alloc (Nat.le_refl _) _
  have xC : Blk W W1.heap.size c.cells 88 := by rw [HW.out]; exact Blk.made _ _ _
  have xM : Blk W w.heap.size #[.pointer (some ⟨m, 0, none⟩)] 23 := x1.same (b2.block _ x1.lt)
  have bW : Below w.heap.size w W := below_chain b1 b2
  have hW := h.below bW
  have HFI := hidx (find_yes hW n hn1 hn2 ht)
  obtain ⟨S0, hT0, _, _⟩ := hW.tx ht
  have HUP := hidx (update_any hT0 c)
  have st0 : W.cell? ⟨X n, 1, none⟩ = some (.int .i64 1) := by have := hT0.cells.c1; rw [hst] at this; exact this
  have HPAR : Hid (c.cells = #[.int .u32 c.page, .int .i64 c.op.kind, .int .i64 c.op.at', .string c.op.S, .string c.op.old, .int .i64 c.undo, .int .i64 c.index, .string c.key, .int .u32 c.rpage, .int .i64 c.rslot, .bool c.live]) := rfl
  have HENC : Hid (∀ wx, Calls Tryz.prog 96 #[.agg ((recU t c).cells none none 0 0)] wx fun e w' => e = .returned (.tuple #[.string (logS t c), .int .i64 0]) ∧ Below wx.heap.size wx w') := fun wx => renc_ok (recU t c) none none 0 0 wx (hok wx) hmay ⟨fun i hi => by simp [recU] at hi, fun i hi => by simp [recU] at hi⟩
  have HUN : Hid (∀ wx, Calls Tryz.prog 130 #[.agg ((recU t c).cells none none 0 0)] wx fun e w' => e = .returned (.bool true) ∧ Below wx.heap.size wx w') := fun wx => by
    have := undoable_any (recU t c) none none 0 0 wx
    rw [decide_eq_true (show (recU t c).kind = 1 ∧ (recU t c).undo ≠ 0 from ⟨rfl, hun⟩)] at this
    exact this
  have m0 : W.cell? ⟨w.heap.size, 0, none⟩ = some (.pointer (some ⟨m, 0, none⟩)) := xM.cell 0
  have z2 : W1.heap.size = w.heap.size + 1 := z1
  have HXC : Hid (W.heap[w.heap.size + 1]? = some (.cells c.cells 88 (0, 0))) := by show _ = _; rw [← z1]; exact xC
  have HXM := hidx xM
  have HBW := hidx bW
  have HH := hidx h
  have HT := hidx ht
  obtain ⟨s, Hs⟩ : ∃ s, Hid (logS t c = s) := ⟨_, rfl⟩
  unfold logT
  rw [Hs.out] at hsz hl HENC ⊢
  clear h hW hT0 b1 b2 x1 xC xM bW z1 z2 ht hst
  rw [HPAR.out]
  go_enter Tryz.func75, Tryz.ntmps75
  go_upto_region 1 with fail
  rw [← HPAR.out, ← HW1.out, ← HW.out]
  clear HW HW1
  go_wp2_with fail
  refine HFI.out.mono ?_
  rintro e w2 ⟨rfl, rfl⟩
  clear HFI
  have e0 : W.cell? ⟨w.heap.size + 1, 0, none⟩ = some (.int .u32 c.page) := BlkR.cell HXC.out 0
  have e1 : W.cell? ⟨w.heap.size + 1, 1, none⟩ = some (.int .i64 c.op.kind) := BlkR.cell HXC.out 1
  have e2 : W.cell? ⟨w.heap.size + 1, 2, none⟩ = some (.int .i64 c.op.at') := BlkR.cell HXC.out 2
  have e3 : W.cell? ⟨w.heap.size + 1, 3, none⟩ = some (.string c.op.S) := BlkR.cell HXC.out 3
  have e4 : W.cell? ⟨w.heap.size + 1, 4, none⟩ = some (.string c.op.old) := BlkR.cell HXC.out 4
  have e5 : W.cell? ⟨w.heap.size + 1, 5, none⟩ = some (.int .i64 c.undo) := BlkR.cell HXC.out 5
  have e6 : W.cell? ⟨w.heap.size + 1, 6, none⟩ = some (.int .i64 c.index) := BlkR.cell HXC.out 6
  have e7 : W.cell? ⟨w.heap.size + 1, 7, none⟩ = some (.string c.key) := BlkR.cell HXC.out 7
  have e8 : W.cell? ⟨w.heap.size + 1, 8, none⟩ = some (.int .u32 c.rpage) := BlkR.cell HXC.out 8
  have e9 : W.cell? ⟨w.heap.size + 1, 9, none⟩ = some (.int .i64 c.rslot) := BlkR.cell HXC.out 9
  have e10 : W.cell? ⟨w.heap.size + 1, 10, none⟩ = some (.bool c.live) := BlkR.cell HXC.out 10
  have HRC : Hid ((recU t c).cells none none 0 0 = #[.int .i64 1, .int .i64 t.tx, .int .u64 t.last, .int .u64 0, .int .u32 c.page, .int .i64 c.op.kind, .int .i64 c.op.at', .string c.op.S, .string c.op.old, .int .i64 c.undo, .int .i64 c.index, .string c.key, .int .u32 c.rpage, .int .i64 c.rslot, .bool c.live, .slice none 0 0, .slice none 0 0]) := rfl
  go_upto_region 6 with fail
  go_wp2_with fail
  refine HUP.out.mono ?_
  rintro e w3 ⟨rfl, b3⟩
  rw [HRC.out]
  clear e0 e1 e2 e3 e4 e5 e6 e7 e8 e9 e10 HUP HXC st0
  obtain ⟨W4, HW4⟩ : ∃ W', Hid (W' = w3.alloc (.cells ((recU t c).cells none none 0 0) 54)) := ⟨_, rfl⟩
  have b4 : Below w3.heap.size w3 W4 := by rw [HW4.out]; exact (Below.refl _ _).alloc (Nat.le_refl _) _
  have x4 : BlkR W4 w3.heap.size ((recU t c).cells none none 0 0) 54 := by rw [HW4.out]; exact Blk.made _ _ _
  have B4 := hidx (below_chain b3 b4)
  have X4 := hidx x4
  have hw3 : W.heap.size ≤ w3.heap.size := b3.size
  have m0' : W4.cell? ⟨w.heap.size, 0, none⟩ = some (.pointer (some ⟨m, 0, none⟩)) := (HXM.out.same (B4.out.block _ HXM.out.lt)).cell 0
  clear b3 b4 x4 m0
  go_upto_region 7 with fail
  rw [← HRC.out, ← HW4.out]
  clear HW4
  refine wp_region_lit ?_
  refine wpList_loadRow rfl _ _ rfl w3.heap.size rfl ((recU t c).cells none none 0 0) _ (0, 0) X4.out _ Tryz.underlying54 rfl (by kernel_rfl) ?_
  go_wp2_with fail
  refine (HENC.out W4).mono ?_
  rintro e w5 ⟨rfl, b5⟩
  obtain ⟨W6, HW6⟩ : ∃ W', Hid (W' = w5.alloc (.cells #[.string s] 9)) := ⟨_, rfl⟩
  have b6 : Below w5.heap.size w5 W6 := by rw [HW6.out]; exact (Below.refl _ _).alloc (Nat.le_refl _) _
  have x6 : Blk W6 w5.heap.size #[.string s] 9 := by rw [HW6.out]; exact Blk.made _ _ _
  have b56 := below_chain b5 b6
  have hw4 : w3.heap.size < W4.heap.size := X4.out.lt
  have hw5 : W4.heap.size ≤ w5.heap.size := b5.size
  have B6 := hidx (below_chain B4.out b56)
  have X6 := hidx (X4.out.same (b56.block _ X4.out.lt))
  have Y6 := hidx x6
  clear b5 b6 x6 b56 B4 X4 m0' HENC
  go_upto_region 11 with fail
  rw [← HW6.out]
  clear HW6
  refine wp_region_lit ?_
  refine wpList_loadRow rfl _ _ rfl w3.heap.size rfl ((recU t c).cells none none 0 0) _ (0, 0) X6.out _ Tryz.underlying54 rfl (by kernel_rfl) ?_
  go_wp2_with fail
  refine (HUN.out W6).mono ?_
  rintro e w7 ⟨rfl, b7⟩
  have B7 := hidx (below_chain B6.out b7)
  have X7 := hidx (X6.out.same (b7.block _ X6.out.lt))
  have Y7 := hidx (Y6.out.same (b7.block _ Y6.out.lt))
  have B7w := hidx (below_chain HBW.out B7.out)
  have H7 := hidx (HH.out.below B7w.out)
  have HLG := hidx (mlog_any H7.out)
  have m7 : w7.cell? ⟨w.heap.size, 0, none⟩ = some (.pointer (some ⟨m, 0, none⟩)) := (HXM.out.same (B7.out.block _ HXM.out.lt)).cell 0
  have s7 : w7.cell? ⟨w5.heap.size, 0, none⟩ = some (.string s) := Y7.out.cell 0
  obtain ⟨L, hL, _, lstep⟩ := H7.out.log
  have HKP := hidx (keep_ok hL hb (by omega) (s.size + 172) (by omega) (by omega))
  have HSt := hidx lstep
  have hs1 : s.size ≤ 8192 := hsz.2
  clear b7 B6 X6 Y6 HUN hL lstep
  go_wp2_with fail
  refine HLG.out.mono ?_
  rintro e w8 ⟨rfl, rfl⟩
  clear HLG
  go_wp2_with fail
  rw [show ((s.size : Int) + 12 + 160) = ((s.size + 172 : Nat) : Int) by omega]
  refine HKP.out.mono ?_
  rintro e w8 ⟨rfl, hL8, mv8⟩
  obtain ⟨A8, h8, mvA8⟩ := HSt.out w8 _ _ hL8 rfl mv8
  have off8 : ∀ k, w.heap.size ≤ k → k < w7.heap.size → w8.heap[k]? = w7.heap[k]? := fun k hk hl => mvA8.1.block k hl fun x => HA.out k hk x
  have hwW : w.heap.size ≤ W.heap.size := HBW.out.size
  have x8 : BlkR w8 w3.heap.size (refCells (recU t c) (.slice none 0 0) (.slice none 0 0)) 54 := (off8 _ (by omega) X7.out.lt).trans X7.out
  have y8 : Blk w8 w5.heap.size #[.string s] 9 := Y7.out.same (off8 _ (by omega) Y7.out.lt)
  have q8 : Blk w8 w.heap.size #[.pointer (some ⟨m, 0, none⟩)] 23 := (HXM.out.same (B7.out.block _ HXM.out.lt)).same (off8 _ (Nat.le_refl _) (HXM.out.same (B7.out.block _ HXM.out.lt)).lt)
  have H8 := hidx h8
  have MV8 := hidx ((Moves.of_kept (Kept.of_below B7w.out) : Moves A A w w7).trans mvA8)
  have hmf : ∀ (fn : Fn) (first cap : Array Value) (w : World), (Instr.makeFunc fn first cap).run Tryz.prog w = .ok (.func fn first cap) w := fun _ _ _ _ => rfl
  have HCH : Hid (Calls Tryz.prog 108 #[.pointer (some ⟨m, 0, none⟩), .agg ((recU t c).cells none none 0 0), .func (.func 131) #[] #[.pointer (some ⟨w.heap.size, 0, none⟩), .pointer (some ⟨w5.heap.size, 0, none⟩)]] w8 fun e w' => e = .returned (.tuple #[.int .u64 ((l.bytes.length + 1 : Nat) : Int), .int .i64 0]) ∧ ∃ A', MSys w' m p X A' (putP P { q with lsn := l.bytes.length + 1 }) (putG { l with kept := l.kept + (s.size + 172) } s) d M ∧ Moves A8 A' w8 w') := by
    refine tchange_any H8.out (recU t c) none none 0 0 h1 h2 hf hfit ho hc hd hq hqn hqs hz hb 131 _ (putG { l with kept := l.kept + (s.size + 172) } s) M X (fun wx => rfl) (fun wx bx => ?_)
    exact log1_any (H8.out.below bx) w.heap.size w5.heap.size s ((q8.same (bx.block _ q8.lt)).cell 0) ((y8.same (bx.block _ y8.lt)).cell 0) hsz.1 hsz.2 hs (by show s.size + 12 + (l.kept + (s.size + 172)) + l.bytes.length ≤ _; omega)
  have m8 : w8.cell? ⟨w.heap.size, 0, none⟩ = some (.pointer (some ⟨m, 0, none⟩)) := q8.cell 0
  obtain ⟨z0, z1, z2, z3, z4, z5, z6, z7, z8, z9, z10, z11, z12, z13, z14, z15, z16⟩ := out_cells x8
  clear hL8 mv8 h8 mvA8 off8 y8 q8 x8 HKP HSt m7 s7 X7 Y7 B7 B7w H7 hmay hok h1 h2 hf hfit ho hc hd hq hqn hqs hz hs HRC
  go_wp2_with fail
  refine HCH.out.mono ?_
  rintro e w9 ⟨rfl, A9, h9, mv9⟩
  have MV9 := hidx (MV8.out.trans mv9)
  obtain ⟨S9, hT9, _, step9⟩ := h9.tx HT.out
  have c5 := hT9.cells.c5
  have f5 := hT9.cells.fr 5
  obtain ⟨hT10, mv10⟩ := hT9.put (t' := { t with kept := t.kept + (s.size + 172) }) 5 (.int .i64 ((t.kept : Int) + ((s.size : Int) + 172))) rfl (fun dv => rfl)
  obtain ⟨W10, HW10⟩ : ∃ W', Hid (W' = w9.setCell ⟨X n, 5, none⟩ (.int .i64 ((t.kept : Int) + ((s.size : Int) + 172)))) := ⟨_, rfl⟩
  rw [← HW10.out] at hT10 mv10
  have HOW := hidx (owe_any hT10 hr hdl (l.bytes.length + 1) (s.size + 172) (by omega) (by omega) (by omega) hod)
  have HST9 := hidx step9
  have HMV10 := hidx mv10
  clear z0 z1 z2 z3 z4 z5 z6 z7 z8 z9 z10 z11 z12 z13 z14 z15 z16 HCH mv9 hT9 step9 hT10 mv10 h9 MV8 H8 hmf m8
  go_upto_region 21 with fail
  rw [← HW10.out]
  clear HW10 c5 f5
  go_wp2_with fail
  refine HOW.out.mono ?_
  rintro e w11 ⟨rfl, S11, hT11, mv11⟩
  have g2 := hT11.cells.c2
  have g3 := hT11.cells.c3
  have f2 := hT11.cells.fr 2
  have f3 := hT11.cells.fr 3
  obtain ⟨hT12, mv12⟩ := hT11.put (t' := { t with kept := t.kept + (s.size + 172), debts := t.debts ++ [⟨l.bytes.length + 1, owedN t.debts (standN t.debts (l.bytes.length + 1)) + (s.size + 172)⟩], last := l.bytes.length + 1 }) 2 (.int .u64 ((l.bytes.length : Int) + 1)) rfl (fun dv => rfl)
  obtain ⟨hT13, mv13⟩ := hT12.put (t' := { t with kept := t.kept + (s.size + 172), debts := t.debts ++ [⟨l.bytes.length + 1, owedN t.debts (standN t.debts (l.bytes.length + 1)) + (s.size + 172)⟩], last := l.bytes.length + 1, next := l.bytes.length + 1 }) 3 (.int .u64 ((l.bytes.length : Int) + 1)) rfl (fun dv => rfl)
  obtain ⟨A13, h13, mvA13⟩ := HST9.out _ _ _ hT13 rfl ((HMV10.out.trans mv11).trans (mv12.trans mv13))
  have HF := hidx (⟨A13, h13, MV9.out.trans mvA13⟩ : ∃ A', MSys ((w11.setCell ⟨X n, 2, none⟩ (.int .u64 ((l.bytes.length : Int) + 1))).setCell ⟨X n, 3, none⟩ (.int .u64 ((l.bytes.length : Int) + 1))) m p X A' (putP P { q with lsn := l.bytes.length + 1 }) (putG { l with kept := l.kept + (s.size + 172) } s) d (M.set n { t with kept := t.kept + (s.size + 172), debts := t.debts ++ [⟨l.bytes.length + 1, owedN t.debts (standN t.debts (l.bytes.length + 1)) + (s.size + 172)⟩], last := l.bytes.length + 1, next := l.bytes.length + 1 }) ∧ Moves A A' w ((w11.setCell ⟨X n, 2, none⟩ (.int .u64 ((l.bytes.length : Int) + 1))).setCell ⟨X n, 3, none⟩ (.int .u64 ((l.bytes.length : Int) + 1))))
  clear hT11 hT12 hT13 mv11 mv12 mv13 h13 mvA13 HST9 HMV10 MV9 HOW HT HH HA HPAR HXM HBW
  go_wp2
  go_ret2
  exact ⟨rfl, HF.out⟩

end

end Go.Proofs.YtdhphbokkmofaaaGreat
