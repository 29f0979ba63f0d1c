/-
  May a record be: the document's word and the program's.
  The walk of girderref04.takeChange.
  A variable of many cells: made of zeros, by one step.
-/
import Derived.Test.YtndfjjcflbpdnaaRefRec2C
import Derived.Test.YtndfjjcflbpdnaaRefBareC
import Derived.Test.YtndfjjcflbpdnaaRefMoreC
import Derived.Test.YtndfjjcflbpdnaaRecDecodeC
import Derived.Test.YtndfjjcflbpdnaaBase3C
import Derived.Laws.Tables
namespace Go.Proofs.Ytndfjjcflbpdnaa
open Go.RowKit Go.Sort
set_option linter.unusedVariables false
set_option linter.unusedSimpArgs false

theorem tx_split (t : TxV) : txMay t = (txB t.1 && decide (1 ≤ t.2.1 ∧ t.2.1 ≤ 3)) := rfl

/-- Does a record have lists or a next that its kind doesn't? -/
abbrev strayP (r : RecV) : Prop := (r.kind ≠ 8 ∧ 0 < r.txs.length + r.dirty.length) ∨ ((r.kind ≠ 2 ∧ r.kind ≠ 3) ∧ r.next ≠ 0)

/-- May a record be, as the document's record has it? -/
def rmayB (r : RecV) : Bool :=
  txB r.tx && (!decide (strayP r) &&
    (if r.kind = 1 then rchangeB r else if r.kind = 2 then rchangeB r && decide (r.undo = 0) else if 3 ≤ r.kind ∧ r.kind ≤ 7 then bareB r else if r.kind = 8 then bareB r && lmayB r else false))

theorem sw_no {P : Prop} [Decidable P] (V : Bool) (h : P) : (!decide P && V) = false := by rw [decide_eq_true h]; rfl
theorem sw_yes {P : Prop} [Decidable P] (V : Bool) (h : ¬ P) : (!decide P && V) = V := by rw [decide_eq_false h]; rfl

theorem size_zero_iff (s : ByteArray) : s.size = 0 ↔ s = ⟨#[]⟩ := by
  have := ba_empty_eq s
  exact ⟨fun h => by rw [← this] at h; exact h, fun h => by rw [h]; rfl⟩

theorem nil_iff {α : Type} (l : List α) : (l = []) = (l.length = 0) := propext List.length_eq_zero_iff.symm

theorem stray_none (a b : Nat) : (0 < a + b) = ¬ (a = 0 ∧ b = 0) := by apply propext; omega

theorem emp_eq (s : ByteArray) : (s = ⟨#[]⟩) = (s.size = 0) := ba_empty_eq s

theorem rmay_eq (r : RecV) : rmayB r = mayR r := by
  rw [Bool.eq_iff_iff]
  unfold rmayB mayR sameR namedV nextB changeB keyB listsB cmayB kmayB lmayB rchangeB bareB txB strayP
  obtain ⟨kind, tx, prev, next, page, ⟨ok, oa, oS, oT⟩, undo, index, key, rpage, rslot, live, txs, dirty⟩ := r
  simp only
  generalize chkB ⟨ok, oa, oS, oT⟩ = c
  generalize txs.all txMay = a
  by_cases k1 : kind = 1
  · subst k1
    by_cases u2 : undo = 2
    · subst u2
      cases live <;> cases c <;> simp [emp_eq, nil_iff, -List.length_eq_zero_iff, -ByteArray.size_eq_zero_iff] <;> omega
    · cases live <;> cases c <;> simp [emp_eq, nil_iff, -List.length_eq_zero_iff, -ByteArray.size_eq_zero_iff, u2] <;> omega
  by_cases k2 : kind = 2
  · subst k2
    by_cases u2 : undo = 2
    · subst u2
      cases live <;> cases c <;> simp [emp_eq, nil_iff, -List.length_eq_zero_iff, -ByteArray.size_eq_zero_iff] <;> omega
    · cases live <;> cases c <;> simp [emp_eq, nil_iff, -List.length_eq_zero_iff, -ByteArray.size_eq_zero_iff, u2] <;> omega
  by_cases k3 : kind = 3
  · subst k3
    cases live <;> simp [emp_eq, nil_iff, -List.length_eq_zero_iff, -ByteArray.size_eq_zero_iff] <;> omega
  by_cases k8 : kind = 8
  · subst k8
    cases live <;> cases a <;> simp [emp_eq, nil_iff, -List.length_eq_zero_iff, -ByteArray.size_eq_zero_iff] <;> omega
  by_cases k7 : 3 ≤ kind ∧ kind ≤ 7
  · cases live <;> simp [emp_eq, nil_iff, -List.length_eq_zero_iff, -ByteArray.size_eq_zero_iff, k1, k2, k3, k8, k7] <;> omega
  · simp [k1, k2, k3, k8, k7]
    omega

end Go.Proofs.Ytndfjjcflbpdnaa

namespace Go.Proofs.Ytndfjjcflbpdnaa
open Go.RowKit Go.Sort
set_option linter.unusedVariables false
set_option linter.unusedSimpArgs false

/-- A reader's cells. -/
def rdCells (s : ByteArray) (p : Nat) (e : Int) : Array Value := #[.string s, .int .i64 p, .int .i64 e]

/-- Where a taker of the document's stands: its reader, the record that it fills, its results. -/
structure TkR (w wx : World) (s : ByteArray) (p : Nat) (e : Int) (cs : Array Value) : Prop where
  bel : Below w.heap.size w wx
  rd : BlkR wx w.heap.size (rdCells s p e) 63
  rc : BlkR wx (w.heap.size + 1) cs 43
  z3 : BlkR wx (w.heap.size + 1 + 1) #[.string ⟨#[]⟩, .int .i64 0, .int .i64 0] 63
  z4 : BlkR wx (w.heap.size + 1 + 1 + 1) zeroCellsR 43
  sz : w.heap.size + 1 + 1 + 1 < wx.heap.size

theorem rdRow {w : World} {b : Nat} {s : ByteArray} {p : Nat} {e : Int} (h : BlkR w b (rdCells s p e) 63) : Row3 w b (.string s) (.int .i64 p) (.int .i64 e) :=
  ⟨h.cell 0, h.cell 1, h.cell 2, h.frozen 0, h.frozen 1, h.frozen 2⟩

theorem TkR.call {w wx wy : World} {s : ByteArray} {p : Nat} {e : Int} {cs : Array Value} (h : TkR w wx s p e cs) (b : Below wx.heap.size wx wy) : TkR w wy s p e cs :=
  have := h.sz
  ⟨below_chain h.bel b, h.rd.same (b.block _ (by omega)), h.rc.same (b.block _ (by omega)), h.z3.same (b.block _ (by omega)), h.z4.same (b.block _ (by omega)), Nat.lt_of_lt_of_le h.sz b.size⟩

theorem TkR.cell {w wx : World} {s : ByteArray} {p : Nat} {e : Int} {cs : Array Value} (h : TkR w wx s p e cs) (i : Nat) (v : Value) : TkR w (wx.setCell ⟨w.heap.size + 1, i, none⟩ v) s p e (cs.setIfInBounds i v) :=
  ⟨h.bel.setCell (p := ⟨w.heap.size + 1, i, none⟩) (Nat.le_succ _) _, h.rd.same (Below.heap_setCell _ _ _ _ (by simp)), h.rc.set i v, h.z3.same (Below.heap_setCell _ _ _ _ (by simp)), h.z4.same (Below.heap_setCell _ _ _ _ (by simp; omega)), by simpa using h.sz⟩

theorem TkR.read {w wx : World} {s : ByteArray} {p : Nat} {e : Int} {cs : Array Value} (h : TkR w wx s p e cs) (p' : Nat) (e' : Int) :
    TkR w (((wx.setCell ⟨w.heap.size, 0, none⟩ (.string s)).setCell ⟨w.heap.size, 1, none⟩ (.int .i64 p')).setCell ⟨w.heap.size, 2, none⟩ (.int .i64 e')) s p' e' cs :=
  ⟨below_set3 h.bel (Nat.le_refl _) _ _ _, ((h.rd.set 0 _).set 1 _).set 2 _,
    ((h.rc.same (Below.heap_setCell _ _ _ _ (by simp))).same (Below.heap_setCell _ _ _ _ (by simp))).same (Below.heap_setCell _ _ _ _ (by simp)),
    ((h.z3.same (Below.heap_setCell _ _ _ _ (by simp; omega))).same (Below.heap_setCell _ _ _ _ (by simp; omega))).same (Below.heap_setCell _ _ _ _ (by simp; omega)),
    ((h.z4.same (Below.heap_setCell _ _ _ _ (by simp; omega))).same (Below.heap_setCell _ _ _ _ (by simp; omega))).same (Below.heap_setCell _ _ _ _ (by simp; omega)), by simpa using h.sz⟩

theorem TkR.start (w : World) (s : ByteArray) (p : Nat) (e : Int) (cs : Array Value) :
    TkR w ((((w.alloc (.cells (rdCells s p e) 63)).alloc (.cells cs 43)).alloc (.cells #[.string ⟨#[]⟩, .int .i64 0, .int .i64 0] 63)).alloc (.cells zeroCellsR 43)) s p e cs := by
  generalize hA : w.alloc (.cells (rdCells s p e) 63) = A
  have a1 : BlkR A w.heap.size (rdCells s p e) 63 := by rw [← hA]; exact heap_alloc_new w _
  have a2 : A.heap.size = w.heap.size + 1 := by rw [← hA]; simp
  have a3 : Below w.heap.size w A := by rw [← hA]; exact (Below.refl _ _).alloc (Nat.le_refl _) _
  generalize hB : A.alloc (.cells cs 43) = B
  have b1 : BlkR B (w.heap.size + 1) cs 43 := by rw [← hB, ← a2]; exact heap_alloc_new A _
  have b2 : B.heap.size = w.heap.size + 1 + 1 := by rw [← hB]; simp [a2]
  have b3 : Below A.heap.size A B := by rw [← hB]; exact (Below.refl _ _).alloc (Nat.le_refl _) _
  generalize hC : B.alloc (.cells #[.string ⟨#[]⟩, .int .i64 0, .int .i64 0] 63) = C
  have c1 : BlkR C (w.heap.size + 1 + 1) #[.string ⟨#[]⟩, .int .i64 0, .int .i64 0] 63 := by rw [← hC, ← b2]; exact heap_alloc_new B _
  have c2 : C.heap.size = w.heap.size + 1 + 1 + 1 := by rw [← hC]; simp [b2]
  have c3 : Below B.heap.size B C := by rw [← hC]; exact (Below.refl _ _).alloc (Nat.le_refl _) _
  have d1 : BlkR (C.alloc (.cells zeroCellsR 43)) (w.heap.size + 1 + 1 + 1) zeroCellsR 43 := by rw [← c2]; exact heap_alloc_new C _
  have d3 : Below C.heap.size C (C.alloc (.cells zeroCellsR 43)) := (Below.refl _ _).alloc (Nat.le_refl _) _
  exact ⟨below_chain (below_chain (below_chain a3 b3) c3) d3, ((a1.same (b3.block _ (by omega))).same (c3.block _ (by omega))).same (d3.block _ (by omega)), (b1.same (c3.block _ (by omega))).same (d3.block _ (by omega)), c1.same (d3.block _ (by omega)), d1, by simp; omega⟩

end Go.Proofs.Ytndfjjcflbpdnaa

namespace Go.Proofs.Ytndfjjcflbpdnaa
open Go.RowKit
set_option linter.unusedVariables false

section
variable {P : Program} {ops : Array Oper} {rest : List Oper} {o : Oper} {a : Act} {Q : Exit → Act → World → Prop} {W : World}

theorem wpList_buildNone (hgd : o.guard = none) (t : TypeId) (ho : o.op = .build t #[]) (C : Array Value) (hb : P.built t [] = some C) (h : wpList P ops Q rest (a.put o.dst (.agg C)) W) : wpList P ops Q (o :: rest) a W := by
  refine wpList_plain hgd fun K hK => ?_
  have hr := run_build (P := P) W t #[] C hb
  unfold Oper.wp execOp
  simp only [ho, List.map_toArray, List.map_nil, Sem.run_bind, Sem.run_pure, Result.andThen_ok, hr]
  exact hK _ _ h

theorem wpList_allocBig (hgd : o.guard = none) (t : TypeId) (ho : o.op = .alloc t) (C : Array Value) (i : TypeInfo) (hi : P.info? t = some i) (hz : i.zero = some (.agg C)) (h : wpList P ops Q rest (a.put o.dst (.pointer (some ⟨W.heap.size, 0, none⟩))) (W.alloc (.cells C t))) : wpList P ops Q (o :: rest) a W := by
  refine wpList_plain hgd fun K hK => ?_
  have hr : (Instr.alloc t true (.tuple #[])).run P W = .ok (.pointer (some ⟨W.heap.size, 0, none⟩)) (W.alloc (.cells C t)) := by
    simp [Instr.alloc, zeroValue, typeInfo, newVar, newRow, hi, hz, Value.cells]
  unfold Oper.wp execOp
  simp only [ho, Sem.run_bind, Sem.run_pure, Result.andThen_ok, hr]
  exact hK _ _ h

theorem wpList_wanted (hw : Region.wanted o (yielded ops a.tmps) = true) (h : ∀ K : Act → World → Prop, (∀ a w, wpList P ops Q rest a w → K a w) → o.wp P a W K Q) : wpList P ops Q (o :: rest) a W :=
  wpList_step fun K hK => by simp only [hw, if_true]; exact h K hK

theorem wpList_loadRowW (hw : Region.wanted o (yielded ops a.tmps) = true) (x : Operand) (t : TypeId) (ho : o.op = .load t x) (b : Nat) (hx : a.eval x = .pointer (some ⟨b, 0, none⟩)) (c : Array Value) (t' : TypeId) (fr : Nat × Nat) (hb : W.heap[b]? = some (.cells c t' fr))
    (d : TypeDesc) (hu : P.underlying t = some d) (hd : (match d with | .struct _ | .array _ _ => true | _ => false) = true) (hi : (P.info? t).map (·.size) = some c.size) (h : wpList P ops Q rest (a.put o.dst (.agg c)) W) : wpList P ops Q (o :: rest) a W := by
  refine wpList_wanted hw fun K hK => ?_
  have hr := run_loadVar_row (P := P) W b t' t c fr d hb hu hd hi
  unfold Oper.wp execOp
  simp only [ho, hx, Instr.loadAt, Instr.sureAddr, Sem.run_bind, Sem.run_pure, Result.andThen_ok, hr]
  exact hK _ _ h

end
end Go.Proofs.Ytndfjjcflbpdnaa
