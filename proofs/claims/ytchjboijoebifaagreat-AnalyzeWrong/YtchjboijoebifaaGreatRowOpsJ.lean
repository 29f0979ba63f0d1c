/-
  A struct that is loaded or stored whole: one step, whatever its cells.
-/
import Derived.Test.YtchjboijoebifaaGreatProg
import Derived.WalkKit
import Derived.WalkSpells
import Derived.Deep.WholeRow
import Derived.Laws.CopyOwn
import Derived.Lib.QuietBelow
import Derived.BigQuiet
import Derived.Test.YtchjboijoebifaaGreatRecValC
import Derived.Test.YtchjboijoebifaaGreatAnNextJ
import Derived.Deep.Cut
import Derived.Test.YtchjboijoebifaaGreatPageDecodeC
import Derived.Shelf.Slices.Equal
import Derived.Shelf.Slices.Empties2
set_option linter.unusedVariables false
set_option linter.unusedSimpArgs false
namespace Go.Proofs.YtchjboijoebifaaGreat
open Go.RowKit

section
variable {P : Program} {ops : Array Oper} {rest : List Oper} {o : Oper} {a : Act} {Q : Exit → Act → World → Prop} {W : World}

theorem wpList_loadRow (hgd : o.guard = none) (x : Operand) (t : TypeId) (ho : o.op = .load t x) (b : Nat) (hx : a.eval x = .pointer (some ⟨b, 0, none⟩)) (c : Array Value) (t' : TypeId) (fr : Nat × Nat) (hb : W.heap[b]? = some (.cells c t' fr))
    (d : TypeDesc) (hu : P.underlying t = some d) (hd : (match d with | .struct _ | .array _ _ => true | _ => false) = true) (hi : (P.info? t).map (·.size) = some c.size) (h : wpList P ops Q rest (a.put o.dst (.agg c)) W) : wpList P ops Q (o :: rest) a W := by
  refine wpList_plain hgd fun K hK => ?_
  have hr := run_loadVar_row (P := P) W b t' t c fr d hb hu hd hi
  unfold Oper.wp execOp
  simp only [ho, hx, Instr.loadAt, Instr.sureAddr, Sem.run_bind, Sem.run_pure, Result.andThen_ok, hr]
  exact hK _ _ h

theorem wpList_storeRow (hgd : o.guard = none) (x y : Operand) (t : TypeId) (ho : o.op = .store t x y) (hdst : o.dst = none) (b : Nat) (hx : a.eval x = .pointer (some ⟨b, 0, none⟩)) (c old : Array Value) (hy : a.eval y = .agg c) (t' : TypeId) (hb : W.heap[b]? = some (.cells old t' (0, 0)))
    (hi : (P.info? t).map (·.size) = some c.size) (ho' : old.size = c.size) (h1 : c.all (·.oneCell') = true) (h : wpList P ops Q rest a (W.setRow b c)) : wpList P ops Q (o :: rest) a W := by
  refine wpList_plain hgd fun K hK => ?_
  have hr := run_storeVar_row (P := P) W b t' t old c hb hi ho' h1
  unfold Oper.wp execOp
  simp only [ho, hx, hy, Instr.storeAt, Instr.sureAddr, Sem.run_bind, Sem.run_pure, Result.andThen_ok, hr]
  refine hK _ _ ?_
  rw [hdst]
  exact h

end

end Go.Proofs.YtchjboijoebifaaGreat

namespace Go.Proofs.YtchjboijoebifaaGreat
open Go.RowKit Go.Sort

section
variable {P : Program} {ops : Array Oper} {rest : List Oper} {o : Oper} {a : Act}

theorem wpQuiet_loadRow {V : World} {Q' : Act → Prop} (hgd : o.guard = none) (x : Operand) (t : TypeId) (ho : o.op = .load t x) (b : Nat) (hx : a.eval x = .pointer (some ⟨b, 0, none⟩)) (c : Array Value) (t' : TypeId) (fr : Nat × Nat) (hb : V.heap[b]? = some (.cells c t' fr))
    (d : TypeDesc) (hu : P.underlying t = some d) (hd : (match d with | .struct _ | .array _ _ => true | _ => false) = true) (hi : (P.info? t).map (·.size) = some c.size)
    (h : wpQuiet P ops (fun w' => ∃ p : Regrown, w' = grow (redrawn V p.d) p.os) Q' rest (a.put o.dst (.agg c))) : wpQuiet P ops (fun w' => ∃ p : Regrown, w' = grow (redrawn V p.d) p.os) Q' (o :: rest) a := by
  refine BigFrame.wpQuiet_want (by simp [Region.wanted, hgd]) (fun K hK => ?_)
  refine ⟨.agg c, fun w hw => ?_, hK _ h⟩
  obtain ⟨p, rfl⟩ := hw
  have hlt : b < V.heap.size := (Array.getElem?_eq_some_iff.1 hb).1
  have hb' : (grow (redrawn V p.d) p.os).heap[b]? = some (.cells c t' fr) := ((below_regrown V p.d p.os).block b hlt).trans hb
  have hr := run_loadVar_row (P := P) (grow (redrawn V p.d) p.os) b t' t c fr d hb' hu hd hi
  unfold Oper.quietAt execOp
  simp only [ho, hx, Instr.loadAt, Instr.sureAddr, Sem.run_bind, Sem.run_pure, Result.andThen_ok, hr]
  exact ⟨rfl, rfl⟩

end

end Go.Proofs.YtchjboijoebifaaGreat

namespace Go.Proofs.YtchjboijoebifaaGreat
open Go.RowKit Go.Sort

set_option maxHeartbeats 400000 in
set_option maxRecDepth 60000 in
theorem rwithin_yes (n lo hi : Int) (w : World) (h : lo ≤ n ∧ n ≤ hi) :
    Calls Tryz.prog 83 #[.int .i64 n, .int .i64 lo, .int .i64 hi] w fun e w' => e = .returned (.bool true) ∧ w' = w := by
  obtain ⟨h1, h2⟩ := h
  go_enter Tryz.func83, Tryz.ntmps83
  go_wp2
  go_ret
  exact ⟨rfl, rfl⟩

set_option maxHeartbeats 400000 in
set_option maxRecDepth 60000 in
theorem rwithin_no (n lo hi : Int) (w : World) (h : ¬ (lo ≤ n ∧ n ≤ hi)) :
    Calls Tryz.prog 83 #[.int .i64 n, .int .i64 lo, .int .i64 hi] w fun e w' => e = .returned (.bool false) ∧ w' = w := by
  by_cases h1 : lo ≤ n
  · have h2 : ¬ n ≤ hi := fun q => h ⟨h1, q⟩
    go_enter Tryz.func83, Tryz.ntmps83
    go_wp2
    go_ret
    exact ⟨rfl, rfl⟩
  · go_enter Tryz.func83, Tryz.ntmps83
    go_wp2
    go_ret
    exact ⟨rfl, rfl⟩

def nextB (r : RecV) : Bool := decide (r.kind = 2 ∨ r.kind = 3)
def changeB (r : RecV) : Bool := decide (r.kind = 1 ∨ r.kind = 2)
def keyB (r : RecV) : Bool := decide ((r.kind = 1 ∨ r.kind = 2) ∧ r.undo = 2)
def listsB (r : RecV) : Bool := decide (r.kind = 8)

section
variable (r : RecV) (ta da : Option Addr) (tc dc : Nat) (w : World)

set_option maxHeartbeats 800000 in
set_option maxRecDepth 60000 in
theorem hasNext_any : Calls Tryz.prog 32 #[.agg (r.cells ta da tc dc)] w fun e w' => e = .returned (.bool (nextB r)) ∧ Below w.heap.size w w' := by
  obtain ⟨R, HR⟩ : ∃ R, Hid (nextB r = R) := ⟨_, rfl⟩
  rw [HR.out]
  unfold nextB at HR
  simp only [RecV.cells]
  generalize r.kind = K at *
  by_cases k1 : K = 2
  · have HR' : Hid (R = true) := by rw [← HR.out]; exact decide_eq_true (.inl k1)
    clear HR
    subst k1
    go_enter Tryz.func32, Tryz.ntmps32
    go_wp2
    go_ret
    exact ⟨by rw [HR'.out]; rfl, (Below.refl _ _).alloc (Nat.le_refl _) _⟩
  · have j1 : (K == 2) = false := by rw [beq_eq_false_iff_ne]; exact k1
    by_cases k2 : K = 3
    · have HR' : Hid (R = true) := by rw [← HR.out]; exact decide_eq_true (.inr k2)
      clear HR
      subst k2
      go_enter Tryz.func32, Tryz.ntmps32
      go_wp2
      go_ret
      exact ⟨by rw [HR'.out]; rfl, (Below.refl _ _).alloc (Nat.le_refl _) _⟩
    · have j2 : (K == 3) = false := by rw [beq_eq_false_iff_ne]; exact k2
      have HR' : Hid (R = false) := by rw [← HR.out]; exact decide_eq_false (by rintro (h | h) <;> contradiction)
      clear HR
      go_enter Tryz.func32, Tryz.ntmps32
      go_wp2
      go_ret
      exact ⟨by rw [HR'.out]; rfl, (Below.refl _ _).alloc (Nat.le_refl _) _⟩

set_option maxHeartbeats 800000 in
set_option maxRecDepth 60000 in
theorem hasChange_any : Calls Tryz.prog 33 #[.agg (r.cells ta da tc dc)] w fun e w' => e = .returned (.bool (changeB r)) ∧ Below w.heap.size w w' := by
  obtain ⟨R, HR⟩ : ∃ R, Hid (changeB r = R) := ⟨_, rfl⟩
  rw [HR.out]
  unfold changeB at HR
  simp only [RecV.cells]
  generalize r.kind = K at *
  by_cases k1 : K = 1
  · have HR' : Hid (R = true) := by rw [← HR.out]; exact decide_eq_true (.inl k1)
    clear HR
    subst k1
    go_enter Tryz.func33, Tryz.ntmps33
    go_wp2
    go_ret
    exact ⟨by rw [HR'.out]; rfl, (Below.refl _ _).alloc (Nat.le_refl _) _⟩
  · have j1 : (K == 1) = false := by rw [beq_eq_false_iff_ne]; exact k1
    by_cases k2 : K = 2
    · have HR' : Hid (R = true) := by rw [← HR.out]; exact decide_eq_true (.inr k2)
      clear HR
      subst k2
      go_enter Tryz.func33, Tryz.ntmps33
      go_wp2
      go_ret
      exact ⟨by rw [HR'.out]; rfl, (Below.refl _ _).alloc (Nat.le_refl _) _⟩
    · have j2 : (K == 2) = false := by rw [beq_eq_false_iff_ne]; exact k2
      have HR' : Hid (R = false) := by rw [← HR.out]; exact decide_eq_false (by rintro (h | h) <;> contradiction)
      clear HR
      go_enter Tryz.func33, Tryz.ntmps33
      go_wp2
      go_ret
      exact ⟨by rw [HR'.out]; rfl, (Below.refl _ _).alloc (Nat.le_refl _) _⟩

set_option maxHeartbeats 800000 in
set_option maxRecDepth 60000 in
theorem hasLists_any : Calls Tryz.prog 37 #[.agg (r.cells ta da tc dc)] w fun e w' => e = .returned (.bool (listsB r)) ∧ Below w.heap.size w w' := by
  obtain ⟨R, HR⟩ : ∃ R, Hid (listsB r = R) := ⟨_, rfl⟩
  rw [HR.out]
  unfold listsB at HR
  simp only [RecV.cells]
  generalize r.kind = K at *
  by_cases k1 : K = 8
  · have HR' : Hid (R = true) := by rw [← HR.out]; exact decide_eq_true k1
    clear HR
    subst k1
    go_enter Tryz.func37, Tryz.ntmps37
    go_wp2
    go_ret
    exact ⟨by rw [HR'.out]; rfl, (Below.refl _ _).alloc (Nat.le_refl _) _⟩
  · have j1 : (K == 8) = false := by rw [beq_eq_false_iff_ne]; exact k1
    have HR' : Hid (R = false) := by rw [← HR.out]; exact decide_eq_false k1
    clear HR
    go_enter Tryz.func37, Tryz.ntmps37
    go_wp2
    go_ret
    exact ⟨by rw [HR'.out]; rfl, (Below.refl _ _).alloc (Nat.le_refl _) _⟩

set_option maxHeartbeats 1600000 in
set_option maxRecDepth 60000 in
theorem hasKey_any : Calls Tryz.prog 35 #[.agg (r.cells ta da tc dc)] w fun e w' => e = .returned (.bool (keyB r)) ∧ Below w.heap.size w w' := by
  have HC : Hid (∀ wx, Calls Tryz.prog 33 #[.agg (r.cells ta da tc dc)] wx fun e w' => e = .returned (.bool (changeB r)) ∧ Below wx.heap.size wx w') := fun wx => hasChange_any r ta da tc dc wx
  have HV : Hid (keyB r = (changeB r && decide (r.undo = 2))) := by show _ = _; unfold keyB changeB; simp
  rw [HV.out]
  simp only [RecV.cells] at HC ⊢
  obtain ⟨W, HW⟩ : ∃ W, Hid (W = w.alloc (.cells #[.int .i64 r.kind, .int .i64 r.tx, .int .u64 r.prev, .int .u64 r.next, .int .u32 r.page, .int .i64 r.op.kind, .int .i64 r.op.at', .string r.op.S, .string r.op.old, .int .i64 r.undo, .int .i64 r.index, .string r.key, .int .u32 r.rpage, .int .i64 r.rslot, .bool r.live, .slice ta r.txs.length tc, .slice da r.dirty.length dc] 63)) := ⟨_, rfl⟩
  have c9 : W.cell? ⟨w.heap.size, 9, none⟩ = some (.int .i64 r.undo) := by rw [HW.out]; simp
  have bW : Below w.heap.size w W := by rw [HW.out]; exact (Below.refl _ _).alloc (Nat.le_refl _) _
  have zW : w.heap.size < W.heap.size := by rw [HW.out]; simp
  cases hc : changeB r with
  | false =>
    rw [hc] at HC
    go_enter Tryz.func35, Tryz.ntmps35
    go_wp2_with fail
    rw [← HW.out]
    refine (HC.out _).mono ?_
    rintro e w1 ⟨rfl, b1⟩
    go_wp2
    go_ret
    exact ⟨rfl, below_chain bW b1⟩
  | true =>
    rw [hc] at HC
    go_enter Tryz.func35, Tryz.ntmps35
    go_wp2_with fail
    rw [← HW.out]
    refine (HC.out _).mono ?_
    rintro e w1 ⟨rfl, b1⟩
    have d9 := (b1.cell (p := ⟨w.heap.size, 9, none⟩) zW).trans c9
    clear HW c9
    by_cases hu : r.undo = 2
    · have hu' : (r.undo == 2) = true := by rw [beq_iff_eq]; exact hu
      go_wp2
      go_ret
      exact ⟨by simp [hu], below_chain bW b1⟩
    · have hu' : (r.undo == 2) = false := by rw [beq_eq_false_iff_ne]; exact hu
      go_wp2
      go_ret
      exact ⟨by simp [hu], below_chain bW b1⟩

end
end Go.Proofs.YtchjboijoebifaaGreat

namespace Go.Proofs.YtchjboijoebifaaGreat
open Go.RowKit Go.Sort

theorem out_cells {w : World} {p : Nat} {t : TypeId} {r : RecV} {v u : Value} (h : BlkR w p (refCells r v u) t) : w.cell? ⟨p, 0, none⟩ = some (.int .i64 r.kind) ∧ w.cell? ⟨p, 1, none⟩ = some (.int .i64 r.tx) ∧ w.cell? ⟨p, 2, none⟩ = some (.int .u64 r.prev) ∧ w.cell? ⟨p, 3, none⟩ = some (.int .u64 r.next) ∧ w.cell? ⟨p, 4, none⟩ = some (.int .u32 r.page) ∧ w.cell? ⟨p, 5, none⟩ = some (.int .i64 r.op.kind) ∧ w.cell? ⟨p, 6, none⟩ = some (.int .i64 r.op.at') ∧ w.cell? ⟨p, 7, none⟩ = some (.string r.op.S) ∧ w.cell? ⟨p, 8, none⟩ = some (.string r.op.old) ∧ w.cell? ⟨p, 9, none⟩ = some (.int .i64 r.undo) ∧ w.cell? ⟨p, 10, none⟩ = some (.int .i64 r.index) ∧ w.cell? ⟨p, 11, none⟩ = some (.string r.key) ∧ w.cell? ⟨p, 12, none⟩ = some (.int .u32 r.rpage) ∧ w.cell? ⟨p, 13, none⟩ = some (.int .i64 r.rslot) ∧ w.cell? ⟨p, 14, none⟩ = some (.bool r.live) ∧ w.cell? ⟨p, 15, none⟩ = some (v) ∧ w.cell? ⟨p, 16, none⟩ = some (u) := ⟨(h.cell 0).trans rfl, (h.cell 1).trans rfl, (h.cell 2).trans rfl, (h.cell 3).trans rfl, (h.cell 4).trans rfl, (h.cell 5).trans rfl, (h.cell 6).trans rfl, (h.cell 7).trans rfl, (h.cell 8).trans rfl, (h.cell 9).trans rfl, (h.cell 10).trans rfl, (h.cell 11).trans rfl, (h.cell 12).trans rfl, (h.cell 13).trans rfl, (h.cell 14).trans rfl, (h.cell 15).trans rfl, (h.cell 16).trans rfl⟩

theorem ref_one (r : RecV) (x y : Option Addr) (a b c d : Nat) : (refCells r (.slice x a b) (.slice y c d)).all (·.oneCell') = true := by simp [refCells, Value.oneCell']

end Go.Proofs.YtchjboijoebifaaGreat
