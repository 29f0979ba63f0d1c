/-
  The walks of a transaction's part and pay, where nothing is left of the last debt; the closure of (*txn.Manager).Compensate.
  The walk of txn.ask, where what it asks does not panic.
  The walks of (*txn.Manager).pass, where undo said itself where undoing goes on, and of Pool.
  The walk of girderlaw09.slot.
-/
import Derived.Test.YtjemeopafkafgaaGreatTxLogCJ
import Derived.Defers
import Derived.Recover
namespace Go.Proofs.YtjemeopafkafgaaGreat
open Go.RowKit Go.Sort
set_option linter.unusedVariables false
set_option linter.unusedSimpArgs false

set_option maxHeartbeats 1600000 in
set_option maxRecDepth 20000 in
theorem part_zero {S : Nat → Prop} {w : World} {b : Nat} {t : MtV} (h : MtAt S w b t) (hr : RisesD t.debts) (hn : t.debts.length ≤ 10000000) (long x : Nat) (hx : standN t.debts x = 0 ∨ standN t.debts x < t.debts.length) :
    Calls Tryz.prog 123 #[.pointer (some ⟨b, 0, none⟩), .int .i64 long, .int .u64 x] w fun r w' => r = .returned (.int .i64 0) ∧ Below w.heap.size w w' := by
  have HS := hidx (standing_any h hr hn x)
  have H := hidx h
  obtain ⟨k, HK⟩ : ∃ k, Hid (standN t.debts x = k) := ⟨_, rfl⟩
  rw [HK.out] at HS hx
  clear HK h hr
  by_cases hk : k = 0
  · subst hk
    clear hx
    go_enter Tryz.func123, Tryz.ntmps123
    go_wp2_with fail
    refine HS.out.mono ?_
    rintro r w1 ⟨rfl, b1⟩
    go_wp2
    go_ret
    exact ⟨rfl, b1⟩
  · have hlt : k < t.debts.length := by omega
    have d1 : ((k : Int) == 0) = false := by rw [beq_eq_false_iff_ne]; omega
    clear hx
    go_enter Tryz.func123, Tryz.ntmps123
    go_wp2_with fail
    refine HS.out.mono ?_
    rintro r w1 ⟨rfl, b1⟩
    obtain ⟨a, c, k1, _, _, _, _⟩ := (H.out.same (fun i hi => b1.block i (H.out.lt i hi)) b1.size).reads
    go_wp2
    go_ret
    exact ⟨rfl, b1⟩

set_option maxHeartbeats 1600000 in
set_option maxRecDepth 20000 in
theorem pay_zero (b : Nat) (w : World) :
    Calls Tryz.prog 125 #[.pointer (some ⟨b, 0, none⟩), .int .i64 0] w fun r w' => r = .returned (.tuple #[]) ∧ w = w' := by
  go_enter Tryz.func125, Tryz.ntmps125
  go_wp2
  go_end0
  exact ⟨rfl, rfl⟩

section
variable {w : World} {m p : Nat} {X : Int → Nat} {A : Nat → Prop} {P : PG} {l : LG} {d : DG} {M : MgG}

set_option maxHeartbeats 3200000 in
set_option maxRecDepth 20000 in
theorem comp1_any (h : MSys w m p X A P l d M) {n : Int} {t : MtV} (ht : M.T n = some t) (mb tb sb lb : Nat) (s : ByteArray) (left : Nat) (c0 : w.cell? ⟨mb, 0, none⟩ = some (.pointer (some ⟨m, 0, none⟩))) (c1 : w.cell? ⟨tb, 0, none⟩ = some (.pointer (some ⟨X n, 0, none⟩))) (c2 : w.cell? ⟨sb, 0, none⟩ = some (.string s)) (c3 : w.cell? ⟨lb, 0, none⟩ = some (.int .i64 left))
    (h1 : 1 ≤ s.size) (h2 : s.size ≤ 8192) (hr : left ≤ 10000000) (hk : t.kept ≤ 10000000) (hb : s.size + 12 + l.bytes.length ≤ 4194304) (hs : l.starts.length ≤ 10000000) (hl : l.kept + ((s.size + 12 + left) - t.kept) ≤ 4194304) (hm : s.size + 12 + left ≤ t.kept ∨ l.kept + ((s.size + 12 + left) - t.kept) + l.bytes.length ≤ 4194304) :
    Calls Tryz.prog 124 #[.pointer (some ⟨mb, 0, none⟩), .pointer (some ⟨tb, 0, none⟩), .pointer (some ⟨sb, 0, none⟩), .pointer (some ⟨lb, 0, none⟩)] w fun r w' => r = .returned (.tuple #[.int .u64 ((l.bytes.length + 1 : Nat) : Int), .int .i64 0]) ∧ ∃ A', MSys w' m p X A' P (spendL l t s left) d (M.set n (spendT l t s left)) ∧ Moves A A' w w' := by
  have HS := hidx (spend_any h ht s left h1 h2 hr hk hb hs hl hm)
  clear h ht h1 h2 hr hk hb hs hl hm
  go_enter Tryz.func124, Tryz.ntmps124
  go_wp2_with fail
  refine HS.out.mono ?_
  rintro r w1 ⟨rfl, A1, g1, mv1⟩
  have HF := hidx (⟨A1, g1, mv1⟩ : ∃ A', MSys w1 m p X A' P (spendL l t s left) d (M.set n (spendT l t s left)) ∧ Moves A A' w w1)
  clear g1 mv1 HS
  go_wp2
  go_ret2
  exact ⟨rfl, HF.out⟩

end

end Go.Proofs.YtjemeopafkafgaaGreat

namespace Go.Proofs.YtjemeopafkafgaaGreat
open Go.RowKit Go.Sort
set_option linter.unusedVariables false
set_option linter.unusedSimpArgs false

theorem ask1_idle (p : Addr) (w : World) :
    CallsD Tryz.prog 119 #[.pointer (some p)] .returning w fun e u' w' => e = .returned (.tuple #[]) ∧ u' = .returning ∧ w' = w := by
  refine callsD_of_wpS Tryz.func119 rfl fun c₀ cs hu => ?_
  apply wpS_seq
  apply wpS_region
  simp [wpOpsS, go_sem, recoverD, hu, Tryz.ntmps119, Exit.thenS]
  refine wpS_cond (t := false) (by simp [Act.eval, Array.replicate]) ?_
  simp only [Bool.false_eq_true, if_false]
  refine wpS_of_wp (wp_skip ?_)
  cases c₀
  simp_all [bodyPostS, results, Tryz.results119]

section
variable {w : World} {m p : Nat} {X : Int → Nat} {A : Nat → Prop} {P : PG} {l : LG} {d : DG} {M : MgG}

set_option maxHeartbeats 3200000 in
set_option maxRecDepth 20000 in
theorem ask_any (h : MSys w m p X A P l d M) (n : Int) (r : RecV) (ta da : Option Addr) (tc dc : Nat) (fn : FuncId) (cap : Value) (P' : PG) (l' : LG) (M' : MgG)
    (hcf : ∀ wx, (callFunc fn #[.int .i64 n, .agg (r.cells ta da tc dc), cap]).run Tryz.prog wx = .ok (.enter fn #[.int .i64 n, .agg (r.cells ta da tc dc), cap]) wx)
    (hun : ∀ wx, Below w.heap.size w wx → Calls Tryz.prog fn #[.int .i64 n, .agg (r.cells ta da tc dc), cap] wx fun e w' => e = .returned (.int .i64 0) ∧ ∃ A', MSys w' m p X A' P' l' d M' ∧ Moves A A' wx w') :
    Calls Tryz.prog 69 #[.func (.func fn) #[] #[cap], .int .i64 n, .agg (r.cells ta da tc dc)] w fun e w' => e = .returned (.int .i64 0) ∧ ∃ A', MSys w' m p X A' P' l' d M' ∧ Moves A A' w w' := by
  have hmf : ∀ (fn : Fn) (first cap : Array Value) (w : World), (Instr.makeFunc fn first cap).run Tryz.prog w = .ok (.func fn first cap) w := fun _ _ _ _ => rfl
  obtain ⟨W1, HW1⟩ : ∃ W, Hid (W = w.alloc (.cells (r.cells ta da tc dc) 56)) := ⟨_, rfl⟩
  have b1 : Below w.heap.size w W1 := by rw [HW1.out]; exact (Below.refl _ _).alloc (Nat.le_refl _) _
  have x1 : BlkR W1 w.heap.size (r.cells ta da tc dc) 56 := by rw [HW1.out]; exact Blk.made _ _ _
  have z1 : W1.heap.size = w.heap.size + 1 := by rw [HW1.out]; simp
  obtain ⟨W, HW⟩ : ∃ W, Hid (W = W1.alloc (.cells #[.int .i64 0] 57)) := ⟨_, rfl⟩
  have b2 : Below W1.heap.size W1 W := by rw [HW.out]; exact (Below.refl _ _).alloc (Nat.le_refl _) _
  have xE : Blk W (w.heap.size + 1) #[.int .i64 0] 57 := by rw [HW.out, ← z1]; exact Blk.made _ _ _
  have xR : BlkR W w.heap.size (r.cells ta da tc dc) 56 := x1.same (b2.block _ x1.lt)
  have bW : Below w.heap.size w W := below_chain b1 b2
  have HU := hidx (hun W bW)
  have HPAR : Hid (r.cells ta da tc dc = #[.int .i64 r.kind, .int .i64 r.tx, .int .u64 r.prev, .int .u64 r.next, .int .u32 r.page, .int .i64 r.op.kind, .int .i64 r.op.at', .string r.op.S, .string r.op.old, .int .i64 r.undo, .int .i64 r.index, .string r.key, .int .u32 r.rpage, .int .i64 r.rslot, .bool r.live, .slice ta r.txs.length tc, .slice da r.dirty.length dc]) := rfl
  have hE : ∀ w', (∃ A', MSys w' m p X A' P' l' d M' ∧ Moves A A' W w') → (w'.cell? ⟨w.heap.size + 1, 0, none⟩ = some (.int .i64 0) ∧ w'.frozen? ⟨w.heap.size + 1, 0, none⟩ = false) ∧ ∃ A', MSys (w'.setCell ⟨w.heap.size + 1, 0, none⟩ (.int .i64 0)) m p X A' P' l' d M' ∧ Moves A A' w (w'.setCell ⟨w.heap.size + 1, 0, none⟩ (.int .i64 0)) := by
    rintro w' ⟨A', k1, k2⟩
    have hA : ¬ A (w.heap.size + 1) := fun x => by have := h.lt _ x; omega
    have ho := k2.off xE.lt hA
    have xE' : Blk w' (w.heap.size + 1) #[.int .i64 0] 57 := xE.same ho.1
    refine ⟨⟨xE'.cell 0, xE'.frozen 0⟩, A', k1.same (fun i hi => ?_) (by simp [World.setCell]), ?_⟩
    · have hne : i ≠ w.heap.size + 1 := fun e => ho.2 (e ▸ hi)
      simp [World.setCell, Array.getElem?_modify, Ne.symm hne]
    · exact ((Moves.of_kept (Kept.of_below bW)).trans k2).late (Kept.setCell (fun k => k = w.heap.size + 1) w' (w.heap.size + 1) 0 (.int .i64 0) rfl) (fun b e => by rw [e]; omega)
  have HE := hidx hE
  obtain ⟨z0, z1', z2, z3, z4, z5, z6, z7, z8, z9, z10, z11, z12, z13, z14, z15, z16⟩ := out_cells (r := r) (v := .slice ta r.txs.length tc) (u := .slice da r.dirty.length dc) xR
  have e0 := xE.cell 0
  have f0 := xE.frozen 0
  clear h hun b1 b2 x1 xE xR bW hE
  rw [HPAR.out] at hcf
  rw [HPAR.out]
  go_enter_defers Tryz.func69, Tryz.ntmps69
  go_upto_region 1 with fail
  rw [← HPAR.out, ← HW1.out, ← HW.out]
  clear HW1 HW
  go_wp2_with fail
  refine HU.out.mono ?_
  rintro e w5 ⟨rfl, hA5⟩
  obtain ⟨⟨g0, g1⟩, HF⟩ := HE.out w5 hA5
  have HG := hidx HF
  clear HF hA5 HE HU hcf z0 z1' z2 z3 z4 z5 z6 z7 z8 z9 z10 z11 z12 z13 z14 z15 z16 e0 f0
  go_wp2
  refine leaves_cons (f := 119) (args := #[.pointer (some ⟨w.heap.size + 1, 0, none⟩)]) (by simp) (by simp [go_sem]) ?_
  refine (ask1_idle ⟨w.heap.size + 1, 0, none⟩ _).mono ?_
  rintro e u' w'' ⟨rfl, rfl, rfl⟩
  simp [Leaves, settle, results, Tryz.results69, go_sem, g0]
  exact HG.out

end

end Go.Proofs.YtjemeopafkafgaaGreat

namespace Go.Proofs.YtjemeopafkafgaaGreat
open Go.RowKit Go.Sort
set_option linter.unusedVariables false
set_option linter.unusedSimpArgs false

section
variable {w : World} {m p : Nat} {X : Int → Nat} {A : Nat → Prop} {P : PG} {l : LG} {d : DG} {M : MgG}

set_option maxHeartbeats 1600000 in
set_option maxRecDepth 20000 in
theorem pass_other (h : MSys w m p X A P l d M) (n : Int) (hn1 : -9223372036854775808 ≤ n) (hn2 : n ≤ 9223372036854775807) {t : MtV} (ht : M.T n = some t) (at' prev : Nat) (hne : t.next ≠ at') :
    Calls Tryz.prog 70 #[.pointer (some ⟨m, 0, none⟩), .int .i64 n, .int .u64 at', .int .u64 prev] w fun e w' => e = .returned (.int .i64 0) ∧ w = w' := by
  have HFI := hidx (find_yes h n hn1 hn2 ht)
  obtain ⟨S, hT, _, _⟩ := h.tx ht
  have c3 := hT.cells.c3
  have d1 : ((t.next : Int) == (at' : Int)) = false := by rw [beq_eq_false_iff_ne]; omega
  clear h ht hT
  go_enter Tryz.func70, Tryz.ntmps70
  go_wp2_with fail
  refine HFI.out.mono ?_
  rintro e w1 ⟨rfl, rfl⟩
  clear HFI
  go_wp2
  go_ret
  exact ⟨rfl, rfl⟩

set_option maxHeartbeats 1600000 in
set_option maxRecDepth 20000 in
theorem mpool_any (h : MSys w m p X A P l d M) :
    Calls Tryz.prog 8 #[.pointer (some ⟨m, 0, none⟩)] w fun e w' => e = .returned (.pointer (some ⟨p, 0, none⟩)) ∧ w = w' := by
  obtain ⟨tb, c0, c1, c2, c3, _⟩ := h.reads
  clear h c1 c2 c3
  go_enter Tryz.func8, Tryz.ntmps8
  go_wp2
  go_ret
  exact ⟨rfl, rfl⟩

end

end Go.Proofs.YtjemeopafkafgaaGreat

namespace Go.Proofs.YtjemeopafkafgaaGreat
open Go.RowKit Go.Sort
set_option linter.unusedVariables false
set_option linter.unusedSimpArgs false

section
variable {w : World} {m p : Nat} {X : Int → Nat} {A : Nat → Prop} {P : PG} {l : LG} {d : DG} {M : MgG}

set_option maxHeartbeats 1600000 in
set_option maxRecDepth 20000 in
theorem slot_any (h : MSys w m p X A P l d M) (n : Nat) (h1 : 1 ≤ n) (h2 : n ≤ 2048) {f : FrV} (hf : P.F n = some f) (s : ByteArray) (hs : f.sh.slots = [s]) :
    Calls Tryz.prog 34 #[.pointer (some ⟨m, 0, none⟩), .int .i64 n] w fun e w' => e = .returned (.string s) ∧ Below w.heap.size w w' := by
  have HP := hidx (mpool_any h)
  obtain ⟨A1, hS, _, _⟩ := h.sys
  have HG := hidx (get_here hS n h1 h2 hf)
  have HV : Hid (∀ a c, f.sh.val a c = .agg #[.int .u32 f.sh.num, .int .u64 f.sh.lsn, .int .i64 f.sh.kind, .string f.sh.head, .slice a 1 c]) := fun a c => by show SheetV.val _ _ _ = _; unfold SheetV.val; rw [hs]; rfl
  have hw : IntKind.u32.wrap (n : Int) = (n : Int) := by rw [IntKind.wrap_u32]; omega
  have HS := hidx hs
  clear h hS hs
  go_enter Tryz.func34, Tryz.ntmps34
  go_wp2_with fail
  refine HP.out.mono ?_
  rintro e w1 ⟨rfl, rfl⟩
  go_wp2_with fail
  refine HG.out.mono ?_
  rintro e w2 ⟨⟨a, c, rfl, s2, b2⟩⟩
  rw [HV.out]
  rw [HS.out] at s2
  rcases s2 with e | ⟨g, o, rfl, g1, g2, g3⟩
  · cases e
  · have c0 : w2.cell? ⟨g, o, none⟩ = some (.string s) := by have := g3 0 (by simp); simpa using this
    have hne : w2.heap.size ≠ g := by omega
    have c0a : (w2.alloc (.cells #[.int .u32 f.sh.num, .int .u64 f.sh.lsn, .int .i64 f.sh.kind, .string f.sh.head, .slice (some ⟨g, o, none⟩) 1 c] 100)).cell? ⟨g, o, none⟩ = some (.string s) := (World.cell?_of_block (w := w2) (a := ⟨g, o, none⟩) (heap_old _ _ g2)).trans c0
    have HF : Hid (Below w.heap.size w (w2.alloc (.cells #[.int .u32 f.sh.num, .int .u64 f.sh.lsn, .int .i64 f.sh.kind, .string f.sh.head, .slice (some ⟨g, o, none⟩) 1 c] 100))) := b2.alloc b2.size _
    clear g3
    go_wp2
    go_ret
    exact ⟨rfl, HF.out⟩

end

end Go.Proofs.YtjemeopafkafgaaGreat
