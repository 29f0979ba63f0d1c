/-
  Rows of structs that a call has made itself: what append makes of them (of any structs).
  check.leaf.
  The walk of check.leaf.
  check.page of a leaf.
  The walk of check.page at a leaf.
-/
import Derived.Test.YtpllidadpcahbaaGreatBase3C
import Derived.Maps.AppendAt
import Derived.Deep.AppendLies
import Derived.BigRegion
import Derived.Deep.RegionLaw
import Derived.Test.YtpllidadpcahbaaGreatTreePartC
namespace Go.Proofs.YtpllidadpcahbaaGreat
open Go.RowKit
set_option linter.unusedVariables false
set_option linter.unusedSimpArgs false

/-- The rows of a type: k cells an element. -/
structure RowTy {α : Type} (P : Program) (T te : TypeId) (k bytes : Nat) (enc : α → List Value) : Prop where
  ht : P.underlying T = some (.slice te)
  info : ∃ i z, P.info? te = some i ∧ i.zero = some z ∧ i.size = k ∧ i.bytes = bytes ∧ z.cells.size = k
  hk : 0 < k
  len : ∀ x, (enc x).length = k
  one : ∀ x, ∀ u ∈ enc x, u.oneCell' = true

section
variable {α : Type} {k : Nat} {enc : α → List Value}

theorem rows_length (hl : ∀ x, (enc x).length = k) (M : List α) : (M.flatMap enc).length = M.length * k := by
  induction M with
  | nil => simp
  | cons x M ih => rw [List.flatMap_cons, List.length_append, ih, hl, List.length_cons, Nat.add_mul, Nat.one_mul, Nat.add_comm]

theorem rows_get (hl : ∀ x, (enc x).length = k) : ∀ (M : List α) (i : Nat) (hi : i < M.length) (j : Nat) (v : Value), (enc M[i])[j]? = some v → (M.flatMap enc)[i * k + j]? = some v
  | x :: M, 0, _, j, v, h => by
    have h : (enc x)[j]? = some v := h
    rw [List.flatMap_cons, Nat.zero_mul, Nat.zero_add, List.getElem?_append_left (List.getElem?_eq_some_iff.1 h).1]
    exact h
  | x :: M, i + 1, hi, j, v, h => by
    have := rows_get hl M i (by simpa using hi) j v (by simpa using h)
    rw [List.flatMap_cons, List.getElem?_append_right (by rw [hl, Nat.add_mul, Nat.one_mul]; omega), hl, show (i + 1) * k + j - k = i * k + j by rw [Nat.add_mul, Nat.one_mul]; omega]
    exact this

theorem rows_inv (hl : ∀ x, (enc x).length = k) (hk : 0 < k) (M : List α) (n : Nat) (u : Value) (h : (M.flatMap enc)[n]? = some u) : ∃ (i : Nat) (hi : i < M.length) (j : Nat), n = i * k + j ∧ (enc M[i])[j]? = some u := by
  induction M generalizing n with
  | nil => simp at h
  | cons x M ih =>
    rw [List.flatMap_cons] at h
    by_cases hn : n < k
    · rw [List.getElem?_append_left (by rw [hl]; exact hn)] at h
      exact ⟨0, by simp, n, by omega, by simpa using h⟩
    · rw [List.getElem?_append_right (by rw [hl]; omega), hl] at h
      obtain ⟨i, hi, j, e, hj⟩ := ih _ h
      exact ⟨i + 1, by simpa using hi, j, by rw [Nat.add_mul, Nat.one_mul]; omega, by simpa using hj⟩

theorem rown_add (b o i : Nat) : (⟨b, o, none⟩ : Addr).add i = ⟨b, o + i, none⟩ := by
  by_cases h0 : i = 0
  · subst h0; simp [Addr.add]
  · simp [Addr.add, h0]

theorem RowsAt.news (hl : ∀ x, (enc x).length = k) (hk : 0 < k) {w : World} {sb so : Nat} {N : List α} (h : RowsAt k enc w (some ⟨sb, so, none⟩) N) : ∀ j u, (N.flatMap enc)[j]? = some u → w.cell? ((⟨sb, so, none⟩ : Addr).add j) = some u := by
  intro j u hu
  rcases h with rfl | ⟨b, o, e, _, hc⟩
  · simp at hu
  · simp only [Option.some.injEq, Addr.mk.injEq, and_true] at e
    obtain ⟨rfl, rfl⟩ := e
    obtain ⟨i, hi, j', rfl, hj⟩ := rows_inv hl hk N j u hu
    rw [rown_add, ← Nat.add_assoc]
    exact hc i hi j' u hj

/-- A row that the call has made: its block g, all of it from the front on. -/
def OwnR (k : Nat) (enc : α → List Value) (te : TypeId) (w : World) (base g cap : Nat) (M : List α) : Prop :=
  w.ownsRow base te k (.slice (some ⟨g, 0, none⟩) M.length cap) M.length (M.flatMap enc)

variable {te : TypeId} {w w' : World} {base g cap : Nat} {M : List α}

theorem OwnR.parts (h : OwnR k enc te w base g cap M) : ∃ cur, base ≤ g ∧ w.heap[g]? = some (.cells cur te (0, 0)) ∧ M.length ≤ cap ∧ cap ≤ maxLen ∧ cur.size = cap * k ∧ cur.toList.take (M.length * k) = M.flatMap enc := by
  rcases h.2 with ⟨e, _⟩ | ⟨g', cap', cur, e, h1, h2, h3, h4, h5, h6⟩
  · cases e
  · simp only [Value.slice.injEq, Option.some.injEq, Addr.mk.injEq, and_true, true_and] at e
    obtain ⟨rfl, rfl⟩ := e
    exact ⟨cur, h1, h2, h3, h4, h5, h6⟩

theorem OwnR.lt (h : OwnR k enc te w base g cap M) : g < w.heap.size := by
  obtain ⟨cur, _, h2, _⟩ := h.parts
  exact (Array.getElem?_eq_some_iff.1 h2).1

theorem OwnR.from (h : OwnR k enc te w base g cap M) : base ≤ g := by obtain ⟨cur, h1, _⟩ := h.parts; exact h1
theorem OwnR.room (h : OwnR k enc te w base g cap M) : M.length ≤ cap := by obtain ⟨cur, _, _, h3, _⟩ := h.parts; exact h3

theorem OwnR.same (h : OwnR k enc te w base g cap M) (e : w'.heap[g]? = w.heap[g]?) : OwnR k enc te w' base g cap M := by
  obtain ⟨cur, h1, h2, h3, h4, h5, h6⟩ := h.parts
  exact ⟨h.1, .inr ⟨g, cap, cur, rfl, h1, e.trans h2, h3, h4, h5, h6⟩⟩

theorem OwnR.below (h : OwnR k enc te w base g cap M) (b : Below w.heap.size w w') : OwnR k enc te w' base g cap M := h.same (b.block g h.lt)

theorem OwnR.rows (hl : ∀ x, (enc x).length = k) (hk : 0 < k) (h : OwnR k enc te w base g cap M) : RowsAt k enc w (some ⟨g, 0, none⟩) M := by
  obtain ⟨cur, h1, h2, h3, h4, h5, h6⟩ := h.parts
  refine .inr ⟨g, 0, rfl, h.lt, fun i hi j v hv => ?_⟩
  have hg := rows_get hl M i hi j v hv
  have hj : j < k := by have := (List.getElem?_eq_some_iff.1 hv).1; rw [hl] at this; exact this
  rw [← h6, List.getElem?_take, if_pos (by have : (i + 1) * k ≤ M.length * k := Nat.mul_le_mul_right k hi; rw [Nat.add_mul, Nat.one_mul] at this; omega)] at hg
  rw [Nat.zero_add]
  unfold World.cell?
  simp only [h2]
  simpa using hg

theorem OwnR.new (w : World) (hb : base ≤ w.heap.size) : OwnR k enc te (w.alloc (.cells #[] te)) base w.heap.size 0 ([] : List α) :=
  ⟨by simp, .inr ⟨w.heap.size, 0, #[], rfl, hb, heap_alloc_new w _, Nat.zero_le _, Nat.zero_le _, by simp, by simp⟩⟩

variable {P : Program} {T : TypeId} {bytes : Nat}

/-- append of other rows to it. -/
theorem run_appR (R : RowTy P T te k bytes enc) (ty : TypeId) (h : OwnR k enc te w base g cap M) {sb so : Nat} (c : Nat) {N : List α} (hn : RowsAt k enc w (some ⟨sb, so, none⟩) N) (h1 : M.length + N.length ≤ 1000000) (h2 : (M.length + N.length) * bytes ≤ 140737488355328) (hb : base ≤ w.heap.size) :
    ∃ g' cap' w', (Builtin.append_ #[T, T] ty #[.slice (some ⟨g, 0, none⟩) M.length cap, .slice (some ⟨sb, so, none⟩) N.length c]).run P w = .ok (.slice (some ⟨g', 0, none⟩) (M.length + N.length) cap') w' ∧
      OwnR k enc te w' base g' cap' (M ++ N) ∧ w.grownBy w' (some g) ∧ (g' = g ∨ g' = w.heap.size) := by
  obtain ⟨i, z, hi, hz, hs, hby, hzs⟩ := R.info
  obtain ⟨v', w', hr, ho, hg, hnil, hat⟩ := run_append_own_at (P := P) w base T ty te i z k bytes R.ht hi hz hs hby hzs R.hk _ M.length (M.flatMap enc) h ⟨sb, so, none⟩ N.length c (N.flatMap enc) (rows_length R.len N) (hn.news R.len R.hk)
    (fun u hu => by obtain ⟨x, _, hx⟩ := List.mem_flatMap.1 hu; exact R.one x u hx) (by unfold maxLen; omega) h2 hb
  rcases ho.2 with ⟨e, _⟩ | ⟨g', cap', cur, e, p1, p2, p3, p4, p5, p6⟩
  · rw [hnil] at e; cases e.1
  · subst e
    refine ⟨g', cap', w', hr, ?_, hg, ?_⟩
    · unfold OwnR
      rw [List.flatMap_append, List.length_append]
      exact ho
    · rcases hat with q | q
      · left; simpa [Value.ownBlock] using q
      · right; simpa [Value.ownBlock] using q

theorem wpList_appR (R : RowTy P T te k bytes enc) {ops : Array Oper} {rest : List Oper} {o : Oper} {a : Act} {Q : Exit → Act → World → Prop} (hgd : o.guard = none) (s x : Operand)
    (ho : o.op = .call { callee := .builtin .append, args := #[s, x], argTypes := #[T, T] }) (base g cap : Nat) (M : List α) (n : Nat) (hn : n = M.length) (hs : a.eval s = .slice (some ⟨g, 0, none⟩) n cap) (h : OwnR k enc te w base g cap M)
    (sb so m c : Nat) (N : List α) (hm : m = N.length) (hx : a.eval x = .slice (some ⟨sb, so, none⟩) m c) (hN : RowsAt k enc w (some ⟨sb, so, none⟩) N) (h1 : M.length + N.length ≤ 1000000) (h2 : (M.length + N.length) * bytes ≤ 140737488355328) (hb : base ≤ w.heap.size)
    (hh : ∀ g' cap' w', OwnR k enc te w' base g' cap' (M ++ N) → w.grownBy w' (some g) → (g' = g ∨ g' = w.heap.size) → wpList P ops Q rest (a.put o.dst (.slice (some ⟨g', 0, none⟩) (n + m) cap')) w') :
    wpList P ops Q (o :: rest) a w := by
  subst hn hm
  refine wpList_plain hgd fun K hK => ?_
  obtain ⟨g', cap', w', hr, h3, h4, h5⟩ := run_appR (w := w) R o.type h c hN h1 h2 hb
  unfold Oper.wp execOp
  simp only [ho, resolve, invoke, builtin, Sem.run_bind, Sem.run_pure, Result.andThen_ok, List.map_toArray, List.map_cons, List.map_nil, hs, hx, hr]
  exact hK _ _ (hh g' cap' w' h3 h4 h5)

theorem step_appR (R : RowTy P T te k bytes enc) {ops : Array Oper} {o : Oper} {a : Act} {K : Act → World → Prop} {Q : Exit → Act → World → Prop} {E : Prop} (hgd : o.guard = none) (s x : Operand)
    (ho : o.op = .call { callee := .builtin .append, args := #[s, x], argTypes := #[T, T] }) (base g cap : Nat) (M : List α) (n : Nat) (hn : n = M.length) (hs : a.eval s = .slice (some ⟨g, 0, none⟩) n cap) (h : OwnR k enc te w base g cap M)
    (sb so m c : Nat) (N : List α) (hm : m = N.length) (hx : a.eval x = .slice (some ⟨sb, so, none⟩) m c) (hN : RowsAt k enc w (some ⟨sb, so, none⟩) N) (h1 : M.length + N.length ≤ 1000000) (h2 : (M.length + N.length) * bytes ≤ 140737488355328) (hb : base ≤ w.heap.size) (r : Nat) (hr : r = n + m)
    (hh : ∀ g' cap' w', OwnR k enc te w' base g' cap' (M ++ N) → w.grownBy w' (some g) → (g' = g ∨ g' = w.heap.size) → K (a.put o.dst (.slice (some ⟨g', 0, none⟩) r cap')) w') :
    if Region.wanted o (yielded ops a.tmps) = true then Oper.wp P o a w K Q else E := by
  subst hr
  subst hn hm
  have hw : Region.wanted o (yielded ops a.tmps) = true := by simp [Region.wanted, hgd]
  rw [if_pos hw]
  obtain ⟨g', cap', w', hr, h3, h4, h5⟩ := run_appR (w := w) R o.type h c hN h1 h2 hb
  unfold Oper.wp execOp
  simp only [ho, resolve, invoke, builtin, Sem.run_bind, Sem.run_pure, Result.andThen_ok, List.map_toArray, List.map_cons, List.map_nil, hs, hx, hr]
  exact hh g' cap' w' h3 h4 h5

end

theorem rowItem : RowTy Tryz.prog 34 42 4 40 ItemV.enc := by
  obtain ⟨i0, hi, hz0, hz1, hz2⟩ := info_parts infoItem
  exact ⟨Tryz.underlying34, ⟨i0, _, hi, hz0, hz1, hz2, rfl⟩, by omega, fun x => rfl, fun x u hu => by simp [ItemV.enc] at hu; rcases hu with rfl | rfl | rfl | rfl <;> rfl⟩

end Go.Proofs.YtpllidadpcahbaaGreat

namespace Go.Proofs.YtpllidadpcahbaaGreat
open Go.RowKit Go.Sort
set_option linter.unusedVariables false
set_option linter.unusedSimpArgs false

def six (v0 v1 v2 v3 v4 v5 : Value) : Nat → Value
  | 0 => v0
  | 1 => v1
  | 2 => v2
  | 3 => v3
  | 4 => v4
  | _ => v5

/-- What was met of a tree: its box. -/
structure CkB (w : World) (cb p : Nat) (pv : Value) (mb next : Nat) (ln : Bool) : Prop where
  row : RowV w cb 6 (six (.pointer (some ⟨p, 0, none⟩)) pv (.map (some mb)) (.int .u32 next) (.bool ln) (.int .i64 0))
  lt : cb < w.heap.size

theorem CkB.same {w w' : World} {cb p : Nat} {pv : Value} {mb next : Nat} {ln : Bool} (h : CkB w cb p pv mb next ln) (e : w'.heap[cb]? = w.heap[cb]?) : CkB w' cb p pv mb next ln :=
  ⟨fun j hj => ⟨(World.cell?_of_block (w := w) (a := ⟨cb, j, none⟩) e).trans (h.row j hj).1, (World.frozen?_of_block (w := w) (a := ⟨cb, j, none⟩) e).trans (h.row j hj).2⟩, by
    have h0 := (World.cell?_of_block (w := w) (a := ⟨cb, 0, none⟩) e).trans (h.row 0 (by omega)).1
    exact World.block_lt_of_cell? _ _ h0⟩

theorem CkB.below {w w' : World} {cb p : Nat} {pv : Value} {mb next : Nat} {ln : Bool} (h : CkB w cb p pv mb next ln) (k : Below w.heap.size w w') : CkB w' cb p pv mb next ln := h.same (k.block cb h.lt)

theorem CkB.cells {w : World} {cb p : Nat} {pv : Value} {mb next : Nat} {ln : Bool} (h : CkB w cb p pv mb next ln) :
    w.cell? ⟨cb, 0, none⟩ = some (.pointer (some ⟨p, 0, none⟩)) ∧ w.cell? ⟨cb, 1, none⟩ = some pv ∧ w.cell? ⟨cb, 2, none⟩ = some (.map (some mb)) ∧ w.cell? ⟨cb, 3, none⟩ = some (.int .u32 next) ∧ w.cell? ⟨cb, 4, none⟩ = some (.bool ln) ∧ w.cell? ⟨cb, 5, none⟩ = some (.int .i64 0) :=
  ⟨(h.row 0 (by omega)).1, (h.row 1 (by omega)).1, (h.row 2 (by omega)).1, (h.row 3 (by omega)).1, (h.row 4 (by omega)).1, (h.row 5 (by omega)).1⟩

theorem CkB.free {w : World} {cb p : Nat} {pv : Value} {mb next : Nat} {ln : Bool} (h : CkB w cb p pv mb next ln) :
    w.frozen? ⟨cb, 1, none⟩ = false ∧ w.frozen? ⟨cb, 3, none⟩ = false ∧ w.frozen? ⟨cb, 4, none⟩ = false := ⟨(h.row 1 (by omega)).2, (h.row 3 (by omega)).2, (h.row 4 (by omega)).2⟩

theorem setCell_frozen {w : World} (a b : Addr) (v : Value) : (w.setCell a v).frozen? b = w.frozen? b := by simp

/-- The link is another one. -/
theorem CkB.link {w : World} {cb p : Nat} {pv : Value} {mb next : Nat} {ln : Bool} (h : CkB w cb p pv mb next ln) (nx : Nat) : CkB ((w.setCell ⟨cb, 3, none⟩ (.int .u32 nx)).setCell ⟨cb, 4, none⟩ (.bool true)) cb p pv mb nx true := by
  obtain ⟨c0, c1, c2, c3, c4, c5⟩ := h.cells
  refine ⟨fun j hj => ⟨?_, by rw [setCell_frozen, setCell_frozen]; exact (h.row j hj).2⟩, by simpa using h.lt⟩
  rcases (show j = 0 ∨ j = 1 ∨ j = 2 ∨ j = 3 ∨ j = 4 ∨ j = 5 by omega) with rfl | rfl | rfl | rfl | rfl | rfl
  · rw [World.cell?_setCell_other _ _ _ _ (by simp), World.cell?_setCell_other _ _ _ _ (by simp)]; exact c0
  · rw [World.cell?_setCell_other _ _ _ _ (by simp), World.cell?_setCell_other _ _ _ _ (by simp)]; exact c1
  · rw [World.cell?_setCell_other _ _ _ _ (by simp), World.cell?_setCell_other _ _ _ _ (by simp)]; exact c2
  · rw [World.cell?_setCell_other _ _ _ _ (by simp)]; exact World.cell?_setCell_same _ _ _ c3
  · exact World.cell?_setCell_same _ _ _ (by rw [World.cell?_setCell_other _ _ _ _ (by simp)]; exact c4)
  · rw [World.cell?_setCell_other _ _ _ _ (by simp), World.cell?_setCell_other _ _ _ _ (by simp)]; exact c5

theorem infoEnt : (Tryz.prog.info? 28).map (fun i => (i.zero, i.size, i.bytes)) = some (some (.agg #[.string ⟨#[]⟩, .int .u32 0, .int .i64 0]), 3, 32) := by kernel_rfl

theorem rowEnt : RowTy Tryz.prog 22 28 3 32 EntV.enc := by
  obtain ⟨i0, hi, hz0, hz1, hz2⟩ := info_parts infoEnt
  exact ⟨Tryz.underlying22, ⟨i0, _, hi, hz0, hz1, hz2, rfl⟩, by omega, fun x => rfl, fun x u hu => by simp [EntV.enc] at hu; rcases hu with rfl | rfl | rfl <;> rfl⟩

/-- make of a row without elements, with room for n. -/
theorem make_ents (n : Nat) (hn : n ≤ 1000000) (w : World) : ∃ cur : Array Value, cur.size = n * 3 ∧
    (Instr.makeSlice 22 (.int .i64 0) (.int .i64 (n : Int))).run Tryz.prog w = .ok (.slice (some ⟨w.heap.size, 0, none⟩) 0 n) (w.alloc (.cells cur 28)) := by
  obtain ⟨i, hi, hz, hs, hb⟩ := info_parts infoEnt
  have hr := run_make (P := Tryz.prog) w 22 28 i _ Tryz.underlying22 hi hz .i64 .i64 0 n (by omega) (by omega) (by rw [hb]; omega) (by omega)
  simp only [Int.toNat_natCast, hs] at hr
  exact ⟨_, by simp [madeCells], hr⟩

theorem OwnR.made {α : Type} {k : Nat} {enc : α → List Value} {te : TypeId} {base : Nat} (w : World) {cur : Array Value} {cap : Nat} (hb : base ≤ w.heap.size) (hc : cap ≤ 1000000) (hs : cur.size = cap * k) : OwnR k enc te (w.alloc (.cells cur te)) base w.heap.size cap ([] : List α) :=
  ⟨by simp, .inr ⟨w.heap.size, cap, cur, rfl, hb, heap_alloc_new w _, Nat.zero_le _, by unfold maxLen; omega, hs, by simp⟩⟩

/-- One entry in a block of its own. -/
theorem row_ent {w : World} {B : Nat} (y : EntV) (h : w.heap[B]? = some (.cells #[.string y.key, .int .u32 y.page, .int .i64 y.slot] 28 (0, 0))) : EntsAt w (some ⟨B, 0, none⟩) [y] := by
  refine .inr ⟨B, 0, rfl, (Array.getElem?_eq_some_iff.1 h).1, fun i hi j v hv => ?_⟩
  have : i = 0 := by simp at hi; exact hi
  subst this
  unfold World.cell?
  simp only [h]
  simpa [EntV.enc] using hv

end Go.Proofs.YtpllidadpcahbaaGreat

namespace Go.Proofs.YtpllidadpcahbaaGreat
open Go.RowKit Go.Sort
set_option linter.unusedVariables false
set_option linter.unusedSimpArgs false

theorem tgrown {g : Nat} {W V w' : World} (b : Below W.heap.size W V) (h : V.grownBy w' (some g)) (hg : W.heap.size ≤ g) : Below W.heap.size W w' :=
  ⟨h.os.trans b.os, h.tape.trans b.tape, h.output.trans b.output, Nat.le_trans b.size h.size, fun k hk => (h.block k (Nat.lt_of_lt_of_le hk b.size) (by simp; omega)).trans (b.block k hk)⟩

theorem kept_link {cb : Nat} {w V : World} (b : Below w.heap.size w V) (v u : Value) : Kept (fun k => k = cb) w ((V.setCell ⟨cb, 3, none⟩ v).setCell ⟨cb, 4, none⟩ u) := by
  have k := ((Below.refl 0 V).setCell (p := ⟨cb, 3, none⟩) (Nat.zero_le _) v).setCell (p := ⟨cb, 4, none⟩) (Nat.zero_le _) u
  refine ⟨k.os.trans b.os, k.tape.trans b.tape, k.output.trans b.output, Nat.le_trans b.size k.size, fun i hi hne => ?_⟩
  rw [heap_setCell_other _ _ _ _ (by simpa using hne), heap_setCell_other _ _ _ _ (by simpa using hne)]
  exact b.block i hi

theorem Kept.after {S : Nat → Prop} {w v u : World} (h : Kept S w v) (b : Below v.heap.size v u) : Kept S w u :=
  ⟨b.os.trans h.os, b.tape.trans h.tape, b.output.trans h.output, Nat.le_trans h.size b.size, fun k hk hs => (b.block k (Nat.lt_of_lt_of_le hk h.size)).trans (h.block k hk hs)⟩

/-- Is a leaf well formed, within its bounds? -/
def LeafOk (s : SpanV) (M : List ItemV) : Prop := RisesE (M.map ItemV.e) ∧ (M.map ItemV.e).any (outS s) = false

section
variable {w : World} {cb p : Nat} {pv : Value} {mb next : Nat} {ln : Bool}

set_option maxHeartbeats 3200000 in
set_option maxRecDepth 20000 in
theorem cleaf_no (hc : CkB w cb p pv mb next true) (n nx : Nat) (a : Option Addr) (m c : Nat) (s : SpanV) (hn : next ≠ n) :
    Calls Tryz.prog 56 #[.pointer (some ⟨cb, 0, none⟩), leafS n nx a m c, s.val] w fun r w' => r = .returned (.bool false) ∧ Below w.heap.size w w' := by
  unfold leafS SpanV.val
  obtain ⟨W, HW⟩ : ∃ W, Hid (W = (w.alloc (.cells #[.int .u32 n, .int .i64 0, .slice none 0 0, .int .u32 nx, .slice a m c] 82)).alloc (.cells #[.string s.fr.key, .int .u32 s.fr.page, .int .i64 s.fr.slot, .string s.tt.key, .int .u32 s.tt.page, .int .i64 s.tt.slot, .bool s.op] 88)) := ⟨_, rfl⟩
  have b1 : Below w.heap.size w W := by rw [HW.out]; exact ((Below.refl _ _).alloc (Nat.le_refl _) _).alloc (by simp) _
  have x0 : RowV W w.heap.size 5 (five (.int .u32 n) (.int .i64 0) (.slice none 0 0) (.int .u32 nx) (.slice a m c)) := by rw [HW.out]; exact (RowV.five_new _ _ _ _ _ _ _).below ((Below.refl _ _).alloc (Nat.le_refl _) _) (by simp)
  obtain ⟨c0, c1, c2, c3, c4, c5⟩ := (hc.below b1).cells
  obtain ⟨q0, q1, q2, q3, q4⟩ := x0.cells5
  have hn' : ¬ ((next : Int) = (n : Int)) := by omega
  go_enter Tryz.func56, Tryz.ntmps56
  go_upto_region 1 with fail
  rw [← HW.out]
  clear HW
  go_quiet (fail)
  go_wp2
  go_ret
  exact ⟨rfl, by show RowKit.Below _ _ _; exact below_drewN b1 _⟩

set_option maxHeartbeats 6400000 in
set_option maxRecDepth 20000 in
theorem cleaf_yes (hc : CkB w cb p pv mb next ln) (n nx : Nat) (a : Option Addr) (M : List ItemV) (c : Nat) (s : SpanV) (hA : ItemsAt w a M) (hl : M.length ≤ 64) (hfar : ∀ b o, a = some ⟨b, o, none⟩ → M ≠ [] → b ≠ cb) (hn : ln = false ∨ next = n) :
    Calls Tryz.prog 56 #[.pointer (some ⟨cb, 0, none⟩), leafS n nx a M.length c, s.val] w fun r w' => (∃ b : Bool, r = .returned (.bool b) ∧ (b = true ↔ LeafOk s M)) ∧ CkB w' cb p pv mb nx true ∧ Kept (fun k => k = cb) w w' := by
  have HHO : Hid (∀ (a' : Option Addr) (c' : Nat) wx, EntsAt wx a' (M.map ItemV.e) → Calls Tryz.prog 99 #[s.val, .slice a' M.length c'] wx fun r w' => r = .returned (.bool (!(M.map ItemV.e).any (outS s))) ∧ Below wx.heap.size wx w') := fun a' c' wx h => by
    have := holds_any a' c' (M.map ItemV.e) s wx h (by rw [List.length_map]; omega)
    rw [List.length_map] at this
    exact this
  have HRI : Hid (∀ (a' : Option Addr) (c' : Nat) wx, EntsAt wx a' (M.map ItemV.e) → Calls Tryz.prog 98 #[.slice a' M.length c'] wx fun r w' => (∃ b : Bool, r = .returned (.bool b) ∧ (b = true ↔ RisesE (M.map ItemV.e))) ∧ Below wx.heap.size wx w') := fun a' c' wx h => by
    have := rise_any a' c' (M.map ItemV.e) wx h (by rw [List.length_map]; omega)
    rw [List.length_map] at this
    exact this
  unfold leafS SpanV.val
  simp only [SpanV.val] at HHO
  obtain ⟨W, HW⟩ : ∃ W, Hid (W = (w.alloc (.cells #[.int .u32 n, .int .i64 0, .slice none 0 0, .int .u32 nx, .slice a M.length c] 82)).alloc (.cells #[.string s.fr.key, .int .u32 s.fr.page, .int .i64 s.fr.slot, .string s.tt.key, .int .u32 s.tt.page, .int .i64 s.tt.slot, .bool s.op] 88)) := ⟨_, rfl⟩
  have b1 : Below w.heap.size w W := by rw [HW.out]; exact ((Below.refl _ _).alloc (Nat.le_refl _) _).alloc (by simp) _
  have x0 : RowV W w.heap.size 5 (five (.int .u32 n) (.int .i64 0) (.slice none 0 0) (.int .u32 nx) (.slice a M.length c)) := by rw [HW.out]; exact (RowV.five_new _ _ _ _ _ _ _).below ((Below.refl _ _).alloc (Nat.le_refl _) _) (by simp)
  have sb : SBox W (w.heap.size + 1) s := by rw [HW.out]; have := SBox.new (w.alloc (.cells #[.int .u32 n, .int .i64 0, .slice none 0 0, .int .u32 nx, .slice a M.length c] 82)) s; simpa using this
  have hWz : w.heap.size + 1 < W.heap.size := by rw [HW.out]; simp
  obtain ⟨c0, c1, c2, c3, c4, c5⟩ := (hc.below b1).cells
  obtain ⟨q0, q1, q2, q3, q4⟩ := x0.cells5
  have hcl := hc.lt
  have hcne1 : cb ≠ w.heap.size := by omega
  have hcne2 : cb ≠ w.heap.size + 1 := by omega
  go_enter Tryz.func56, Tryz.ntmps56
  go_upto_region 1 with fail
  rw [← HW.out]
  clear HW
  go_cut [22] from 10 to 21 (fun v22 wx => v22 = .bool false ∧ Hid (Below W.heap.size W wx))
  case first =>
    cases ln with
    | false =>
      go_quiet (fail)
      go_wp2
      go_meet
      case rel => exact ⟨rfl, by show RowKit.Below _ _ _; exact below_drewN (Below.refl _ _) _⟩
    | true =>
      have hne : next = n := by rcases hn with q | q; cases q; exact q
      subst hne
      go_quiet (fail)
      go_wp2
      go_meet
      case rel => exact ⟨rfl, by show RowKit.Below _ _ _; exact below_drewN (Below.refl _ _) _⟩
  obtain ⟨rfl, hcut⟩ := hcut
  obtain ⟨V, HV⟩ : ∃ V, V = wc := ⟨_, rfl⟩
  rw [← HV] at hcut ⊢
  clear HV
  have bV := hcut.out
  have B1 := below_chain b1 bV
  have hcV := (hc.below b1).below bV
  have x1 := x0.below bV (by omega)
  have s1 := sb.below bV hWz
  have hVz := bV.size
  clear c0 c1 c2 c3 c4 c5 q0 q1 q2 q3 q4 hcut
  obtain ⟨c0, c1, c2, c3, c4, c5⟩ := hcV.cells
  obtain ⟨g1, g3, g4⟩ := hcV.free
  obtain ⟨q0, q1, q2, q3, q4⟩ := x1.cells5
  obtain ⟨W2, HW2⟩ : ∃ W2, Hid (W2 = (V.setCell ⟨cb, 3, none⟩ (.int .u32 nx)).setCell ⟨cb, 4, none⟩ (.bool true)) := ⟨_, rfl⟩
  have K2 : Hid (Kept (fun k => k = cb) w W2) := by rw [HW2.out]; exact kept_link B1 _ _
  have C2 : Hid (CkB W2 cb p pv mb nx true) := by rw [HW2.out]; exact hcV.link nx
  have hz2 := hidn (show W2.heap.size = V.heap.size by rw [HW2.out]; simp)
  have xr : RowV W2 w.heap.size 5 (five (.int .u32 n) (.int .i64 0) (.slice none 0 0) (.int .u32 nx) (.slice a M.length c)) := by rw [HW2.out]; exact (x1.set_other hcne1 _).set_other hcne1 _
  have ss : SBox W2 (w.heap.size + 1) s := by
    rw [HW2.out]
    obtain ⟨t0, t1, t2, t3, t4, t5, t6, tl⟩ := s1
    have hcc : ∀ j, ((V.setCell ⟨cb, 3, none⟩ (.int .u32 nx)).setCell ⟨cb, 4, none⟩ (.bool true)).cell? ⟨w.heap.size + 1, j, none⟩ = V.cell? ⟨w.heap.size + 1, j, none⟩ := fun j => by
      rw [World.cell?_setCell_other _ _ _ _ (by intro q; have := congrArg Addr.block q; simp only at this; omega), World.cell?_setCell_other _ _ _ _ (by intro q; have := congrArg Addr.block q; simp only at this; omega)]
    exact ⟨by rw [hcc]; exact t0, by rw [hcc]; exact t1, by rw [hcc]; exact t2, by rw [hcc]; exact t3, by rw [hcc]; exact t4, by rw [hcc]; exact t5, by rw [hcc]; exact t6, by simpa using tl⟩
  have A2 : Hid (ItemsAt W2 a M) := by
    rcases hA with q | ⟨b, o, e, hb, hcl2⟩
    · exact .inl q
    · by_cases h0 : M = []
      · exact .inl h0
      · have hne := hfar b o e h0
        exact .inr ⟨b, o, e, Nat.lt_of_lt_of_le hb K2.out.size, fun i hi j v hv => (World.cell?_of_block (w := w) (a := ⟨b, o + i * 4 + j, none⟩) (K2.out.block b hb hne)).trans (hcl2 i hi j v hv)⟩
  obtain ⟨cur, hcur, hmk⟩ := make_ents M.length (by omega) W2
  go_upto_region 4 with fail
  rw [← HW2.out]
  clear HW2 c0 c1 c2 c3 c4 c5 g1 g3 g4 q0 q1 q2 q3 q4 x1 s1 hcV
  have hO0 := hidn (OwnR.made (k := 3) (enc := EntV.enc) (te := 28) (base := W2.heap.size) W2 (Nat.le_refl _) (show M.length ≤ 1000000 by omega) hcur)
  have hB0 := hidn (show Below W2.heap.size W2 (W2.alloc (.cells cur 28)) from (Below.refl _ _).alloc (Nat.le_refl _) _)
  obtain ⟨q0, q1, q2, q3, q4⟩ := xr.cells5
  have hq4 : (W2.alloc (.cells cur 28)).cell? ⟨w.heap.size, 4, none⟩ = some (.slice a M.length c) := (hB0.out.cell (p := ⟨w.heap.size, 4, none⟩) (by have := hz2.out; simp only; omega)).trans q4
  go_upto_block 0 with fail
  go_cut [7] from 38 to 47 (fun v7 wx => ∃ g cap : Nat, v7 = .slice (some ⟨g, 0, none⟩) M.length cap ∧ Hid (OwnR 3 EntV.enc 28 wx W2.heap.size g cap (M.map ItemV.e)) ∧ Hid (Below W2.heap.size W2 wx))
  case first =>
    go_wp2_with fail
    go_loopw [7, 38] (fun v7 i wr => ∃ k g cap : Nat, k ≤ M.length ∧ i = .int .i64 k ∧ v7 = .slice (some ⟨g, 0, none⟩) k cap ∧ Hid (OwnR 3 EntV.enc 28 wr W2.heap.size g cap ((M.take k).map ItemV.e)) ∧ Hid (Below W2.heap.size W2 wr)) (fun _ i _ => M.length - (intOf i).toNat)
    case atStart => exact ⟨0, _, _, by omega, rfl, rfl, by simpa using hO0, hB0⟩
    case round =>
      obtain ⟨k, g, cap, hk, rfl, rfl, HO, HB⟩ := hrel
      by_cases hlt : k < M.length
      · have hi0 : (0 : Int) ≤ (k : Int) := by omega
        have hi1 : (k : Int) < (M.length : Int) := by omega
        obtain ⟨bb, o, rfl, hb, d0, d1, d2, d3⟩ := (A2.out.below HB.out).item hlt
        have htk := hidn (show (M.take (k + 1)).map ItemV.e = (M.take k).map ItemV.e ++ [M[k].e] by rw [List.take_succ_eq_append_getElem hlt, List.map_append]; rfl)
        have hlk := hidn (show k = ((M.take k).map ItemV.e).length by rw [List.length_map, List.length_take]; omega)
        generalize M[k] = y at *
        obtain ⟨V2, HV2⟩ : ∃ V2, Hid (V2 = (wr.alloc (.cells #[.string y.e.key, .int .u32 y.e.page, .int .i64 y.e.slot, .bool y.live] 42)).alloc (.cells #[.string y.e.key, .int .u32 y.e.page, .int .i64 y.e.slot] 28)) := ⟨_, rfl⟩
        have bV2 : Below wr.heap.size wr V2 := by rw [HV2.out]; exact ((Below.refl _ _).alloc (Nat.le_refl _) _).alloc (by simp) _
        have HX := hidn (HO.out.below bV2)
        have HE : Hid (EntsAt V2 (some ⟨wr.heap.size + 1, 0, none⟩) [y.e]) := by
          refine row_ent y.e ?_
          rw [HV2.out]
          have := heap_alloc_new (wr.alloc (.cells #[.string y.e.key, .int .u32 y.e.page, .int .i64 y.e.slot, .bool y.live] 42)) (.cells #[.string y.e.key, .int .u32 y.e.page, .int .i64 y.e.slot] 28)
          simpa using this
        have hBV := hidn (below_chain HB.out bV2)
        have hsz := hBV.out.size
        have hGf := hidn HO.out.from
        rw [HV2.out] at HX HE hsz
        go_wp2_with (at_builtin; refine wpList_appR rowEnt rfl _ _ rfl W2.heap.size g cap ((M.take k).map ItemV.e) k hlk.out rfl HX.out (wr.heap.size + 1) 0 1 1 [y.e] rfl rfl HE.out (by rw [← hlk.out]; simp; omega) (by rw [← hlk.out]; simp; omega) (by simpa using hsz) ?_; intro g' cap' w9 own9 grow9 loc9)
        have B9 : Below W2.heap.size W2 w9 := by rw [← HV2.out] at grow9; exact tgrown hBV.out grow9 hGf.out
        rw [← htk.out] at own9
        have own10 := hidn own9
        go_wp2
        go_roundw
        case rel => exact ⟨k + 1, g', cap', by omega, by go_num, rfl, own10, B9⟩
        case measure => simp [intOf]; omega
      · obtain rfl : k = M.length := by omega
        rw [List.take_length] at HO
        go_wp2
        go_meet
        case rel => exact ⟨g, cap, rfl, HO, HB⟩
  obtain ⟨g, cap, rfl, HO, HB⟩ := hcut
  obtain ⟨W3, HW3⟩ : ∃ W, W = wc := ⟨_, rfl⟩
  rw [← HW3] at HO HB ⊢
  clear HW3 hq4 q0 q1 q2 q3 q4
  have hE3 := OwnR.rows (k := 3) (enc := EntV.enc) (fun x => rfl) (by omega) HO.out
  have ss3 := ss.below HB.out (by have := hz2.out; omega)
  have HR1 := hidn (HRI.out _ cap W3 hE3)
  have C3 := hidn (C2.out.below HB.out)
  have K3 := hidn (K2.out.after HB.out)
  go_wp2_with fail
  refine HR1.out.mono ?_
  rintro r w4 ⟨⟨b, rfl, hb⟩, b4⟩
  have C4 := hidn (C3.out.below b4)
  have K4 := hidn (K3.out.after b4)
  cases b with
  | false =>
    have hno := hidn (show ¬ LeafOk s M from fun q => by have := hb.2 q.1; cases this)
    clear hb hE3 ss3 hA hfar hn
    go_wp2
    go_ret
    exact ⟨⟨false, rfl, by simpa using hno.out⟩, C4.out, K4.out⟩
  | true =>
    have hri := hidn (hb.1 rfl)
    clear hb hA hfar hn
    have hE4 := hE3.below b4
    obtain ⟨t0, t1, t2, t3, t4, t5, t6, _⟩ := ss3.below b4 ss3.lt
    have HH1 := hidn (HHO.out _ cap w4 hE4)
    go_wp2_with fail
    refine HH1.out.mono ?_
    rintro r w5 ⟨rfl, b5⟩
    have C5 := hidn (C4.out.below b5)
    have K5 := hidn (K4.out.after b5)
    have hfin : Hid ((!(M.map ItemV.e).any (outS s)) = true ↔ LeafOk s M) := by
      show _ ↔ _
      unfold LeafOk
      constructor
      · intro q; exact ⟨hri.out, by simpa using q⟩
      · intro q; have := q.2; rw [this]; rfl
    generalize (!(M.map ItemV.e).any (outS s)) = Q at *
    clear t0 t1 t2 t3 t4 t5 t6 hE3 hE4 ss3
    go_wp2
    go_ret
    exact ⟨⟨Q, rfl, hfin.out⟩, C5.out, K5.out⟩

end

end Go.Proofs.YtpllidadpcahbaaGreat

namespace Go.Proofs.YtpllidadpcahbaaGreat
open Go.RowKit Go.Sort
set_option linter.unusedVariables false
set_option linter.unusedSimpArgs false

theorem infoPage : (Tryz.prog.info? 24).map (fun i => (i.zero, i.size, i.bytes)) = some (some (.int .u32 0), 1, 4) := by kernel_rfl

theorem tzeroStruct (w : World) : (zeroValue 131).run Tryz.prog w = .ok (.agg #[]) w := by kernel_rfl

/-- Where a check stands: the pool, its box, those that were met. -/
structure CkAt (w : World) (cb p : Nat) (A : Nat → Prop) (P : PG) (l : LG) (d : DG) (pv : Value) (L : List Nat) (mb : Nat) (D : DataW Value) (next : Nat) (ln : Bool) : Prop where
  sys : Sys w p A P l d
  box : CkB w cb p pv mb next ln
  met : MapV 24 w mb L.length D
  has : ∀ n, n < 4294967296 → Maps.has D (keyL n) = decide (n ∈ L)
  val : ∀ n, n < 4294967296 → getV D (keyL n) (.agg #[]) = .agg #[]
  row : w.ownsRow (cb + 1) 24 1 pv L.length (L.map fun n : Nat => Value.int .u32 (n : Int))
  am : ∀ k, A k → k < mb
  mc : mb < cb
  len : L.length ≤ 64

section
variable {w w' : World} {cb p : Nat} {A : Nat → Prop} {P : PG} {l : LG} {d : DG} {pv : Value} {L : List Nat} {mb : Nat} {D : DataW Value} {next : Nat} {ln : Bool}

theorem CkAt.below (h : CkAt w cb p A P l d pv L mb D next ln) (k : Below w.heap.size w w') : CkAt w' cb p A P l d pv L mb D next ln := by
  refine ⟨h.sys.below k, h.box.below k, h.met.same (k.block mb h.met.lt), h.has, h.val, ?_, h.am, h.mc, h.len⟩
  exact h.row.kept (row := none) ⟨k.os, k.tape, k.output, k.size, fun i hi _ => k.block i hi⟩ (by cases e : pv.ownBlock <;> simp)

theorem CkAt.look (h : CkAt w cb p A P l d pv L mb D next ln) {n : Nat} (hn : n < 4294967296) :
    (Instr.lookup 83 (.map (some mb)) (.int .u32 n) true).run Tryz.prog w = .ok (.tuple #[.agg #[], .bool (decide (n ∈ L))]) w := by
  rw [h.met.lookOk pageKeyed Tryz.underlying83 (tzeroStruct w) (keyL_key hn), h.has n hn, h.val n hn]

set_option maxHeartbeats 1600000 in
/-- A page that was met. -/
theorem page_again (h : CkAt w cb p A P l d pv L mb D next ln) (n : Nat) (hn : n < 4294967296) (lv : Int) (s : SpanV) (hm : n ∈ L) :
    Calls Tryz.prog 29 #[.pointer (some ⟨cb, 0, none⟩), .int .u32 n, .int .i64 lv, s.val] w fun r w' => r = .returned (.bool false) ∧ Below w.heap.size w w' := by
  obtain ⟨W, HW⟩ : ∃ W, Hid (W = w.alloc (.cells #[.string s.fr.key, .int .u32 s.fr.page, .int .i64 s.fr.slot, .string s.tt.key, .int .u32 s.tt.page, .int .i64 s.tt.slot, .bool s.op] 88)) := ⟨_, rfl⟩
  have b1 : Below w.heap.size w W := by rw [HW.out]; exact (Below.refl _ _).alloc (Nat.le_refl _) _
  have h1 := h.below b1
  have hk := h1.look hn
  rw [decide_eq_true hm] at hk
  obtain ⟨c0, c1, c2, c3, c4, c5⟩ := h1.box.cells
  unfold SpanV.val
  go_enter Tryz.func29, Tryz.ntmps29
  go_upto_region 1 with fail
  rw [← HW.out]
  clear HW
  go_wp2
  go_ret
  exact ⟨rfl, b1.alloc b1.size _⟩

/-- One more was met. -/
theorem CkAt.meet (h : CkAt w cb p A P l d pv L mb D next ln) {n : Nat} (hn : n < 4294967296) (hno : n ∉ L) :
    ∃ (u : World → World) (D' : DataW Value), (∀ V : World, Below w.heap.size w V → (Instr.mapUpdate 83 (.map (some mb)) (.int .u32 n) (.agg #[])).run Tryz.prog V = .ok () (u V) ∧ Kept (fun k => k = mb) V (u V) ∧ MapV 24 (u V) mb (L ++ [n]).length D') ∧
      (∀ q, q < 4294967296 → Maps.has D' (keyL q) = decide (q ∈ L ++ [n])) ∧ (∀ q, q < 4294967296 → getV D' (keyL q) (.agg #[]) = .agg #[]) := by
  obtain ⟨u, hu⟩ := put_ex 24 83 131 mb (.int .u32 n) (.agg #[])
  have hI : Maps.IsMap D := (h.met.tidy pageKeyed).isMap
  have hl := h.len
  refine ⟨u, D.put (keyL n) (.held (.agg #[])), fun V hb => ?_, fun q hq => ?_, fun q hq => ?_⟩
  · obtain ⟨hrun, hM, ht⟩ := hu V L.length D (keyL n) ((h.below hb).met) pageKeyed Tryz.underlying83 (by omega) (keyL_key hn)
    refine ⟨hrun, mapTurned_kept ht rfl, ?_⟩
    rw [Maps.size_put (h.met.tidy pageKeyed), h.met.2, h.has n hn, decide_eq_false hno] at hM
    rw [List.length_append]
    exact hM
  · by_cases e : q = n
    · subst e
      rw [Maps.has_put_same hI (keyL_lit q)]
      simp
    · rw [Maps.has_put_other (keyL_ne e), h.has q hq]
      simp [e]
  · by_cases e : q = n
    · subst e
      exact getV_put_same hI (keyL_lit q) _ _
    · rw [getV_put_other (keyL_ne e)]
      exact h.val q hq

end

end Go.Proofs.YtpllidadpcahbaaGreat

namespace Go.Proofs.YtpllidadpcahbaaGreat
open Go.RowKit Go.Sort
set_option linter.unusedVariables false
set_option linter.unusedSimpArgs false

theorem CkB.pages {w : World} {cb p : Nat} {pv : Value} {mb next : Nat} {ln : Bool} (h : CkB w cb p pv mb next ln) (v : Value) : CkB (w.setCell ⟨cb, 1, none⟩ v) cb p v mb next ln := by
  obtain ⟨c0, c1, c2, c3, c4, c5⟩ := h.cells
  refine ⟨fun j hj => ⟨?_, by rw [setCell_frozen]; exact (h.row j hj).2⟩, by simpa using h.lt⟩
  rcases (show j = 0 ∨ j = 1 ∨ j = 2 ∨ j = 3 ∨ j = 4 ∨ j = 5 by omega) with rfl | rfl | rfl | rfl | rfl | rfl
  · rw [World.cell?_setCell_other _ _ _ _ (by simp)]; exact c0
  · exact World.cell?_setCell_same _ _ _ c1
  · rw [World.cell?_setCell_other _ _ _ _ (by simp)]; exact c2
  · rw [World.cell?_setCell_other _ _ _ _ (by simp)]; exact c3
  · rw [World.cell?_setCell_other _ _ _ _ (by simp)]; exact c4
  · rw [World.cell?_setCell_other _ _ _ _ (by simp)]; exact c5

theorem SBox.same {w w' : World} {B : Nat} {s : SpanV} (h : SBox w B s) (e : w'.heap[B]? = w.heap[B]?) : SBox w' B s :=
  ⟨(World.cell?_of_block (w := w) (a := ⟨B, 0, none⟩) e).trans h.c0, (World.cell?_of_block (w := w) (a := ⟨B, 1, none⟩) e).trans h.c1, (World.cell?_of_block (w := w) (a := ⟨B, 2, none⟩) e).trans h.c2, (World.cell?_of_block (w := w) (a := ⟨B, 3, none⟩) e).trans h.c3, (World.cell?_of_block (w := w) (a := ⟨B, 4, none⟩) e).trans h.c4, (World.cell?_of_block (w := w) (a := ⟨B, 5, none⟩) e).trans h.c5, (World.cell?_of_block (w := w) (a := ⟨B, 6, none⟩) e).trans h.c6, World.block_lt_of_cell? _ _ ((World.cell?_of_block (w := w) (a := ⟨B, 0, none⟩) e).trans h.c0)⟩

section
variable {w : World} {cb p : Nat} {A : Nat → Prop} {P : PG} {l : LG} {d : DG} {pv : Value} {L : List Nat} {mb : Nat} {D : DataW Value} {next : Nat} {ln : Bool}

/-- The blocks that a check turns. -/
def CkS (mb cb : Nat) (pv : Value) : Nat → Prop := fun k => k = mb ∨ k = cb ∨ pv.ownBlock = some k

/-- A page was met, and its number put behind the others. -/
theorem CkAt.pushed (h : CkAt w cb p A P l d pv L mb D next ln) (hL : L.length < 64) {n : Nat} {V u w3 : World} {D' : DataW Value} {v' : Value} (bV : Below w.heap.size w V) (ku : Kept (fun k => k = mb) V u) (hM : MapV 24 u mb (L ++ [n]).length D')
    (hh : ∀ q, q < 4294967296 → Maps.has D' (keyL q) = decide (q ∈ L ++ [n])) (hv : ∀ q, q < 4294967296 → getV D' (keyL q) (.agg #[]) = .agg #[]) (o : Obj) (hown : w3.ownsRow (cb + 1) 24 1 v' (L.length + 1) ((L.map fun n : Nat => Value.int .u32 (n : Int)) ++ [.int .u32 (n : Int)])) (hg : (u.alloc o).grownBy w3 pv.ownBlock) :
    CkAt (w3.setCell ⟨cb, 1, none⟩ v') cb p A P l d v' (L ++ [n]) mb D' next ln ∧ Kept (CkS mb cb pv) w (w3.setCell ⟨cb, 1, none⟩ v') ∧ w3.cell? ⟨cb, 1, none⟩ = some pv ∧ w3.frozen? ⟨cb, 1, none⟩ = false ∧ w3.cell? ⟨cb, 0, none⟩ = some (.pointer (some ⟨p, 0, none⟩)) := by
  have hmc := h.mc
  have hcl := h.box.lt
  have hml := h.met.lt
  have hrow := h.row.lt
  have f3 : ∀ k, k < w.heap.size → k ≠ mb → pv.ownBlock ≠ some k → w3.heap[k]? = w.heap[k]? := fun k hk h1 h2 => by
    rw [hg.block k (by have := bV.size; have := ku.size; simp; omega) (fun q => h2 q.symm), heap_old _ _ (by have := bV.size; have := ku.size; omega), ku.block k (by have := bV.size; omega) h1, bV.block k hk]
  have hcb : pv.ownBlock ≠ some cb := fun q => by have := (hrow cb q).1; omega
  have hmb : pv.ownBlock ≠ some mb := fun q => by have := (hrow mb q).1; omega
  have b3 : CkB w3 cb p pv mb next ln := h.box.same (f3 cb hcl (by omega) hcb)
  have s3 : w.heap.size ≤ w3.heap.size := by have := bV.size; have := ku.size; have := hg.size; simp at this; omega
  have hmm : w3.heap[mb]? = u.heap[mb]? := by
    rw [hg.block mb (by have := hM.lt; simp; omega) (fun q => hmb q.symm), heap_old _ _ hM.lt]
  have hne : mb ≠ cb := by omega
  refine ⟨⟨?_, b3.pages v', hM.same (by rw [heap_setCell_other _ _ _ _ (by simpa using hne)]; exact hmm), hh, hv, ?_, h.am, hmc, by rw [List.length_append]; simp; omega⟩, ⟨?_, ?_, ?_, by simpa using s3, fun k hk hs => ?_⟩, b3.cells.2.1, b3.free.1, b3.cells.1⟩
  · refine h.sys.same (fun b hb => ?_) (by simpa using s3)
    have hbm := h.am b hb
    have hbc : b ≠ cb := by omega
    rw [heap_setCell_other _ _ _ _ (by simpa using hbc)]
    exact f3 b (h.sys.lt b hb) (by omega) (fun q => by have := (hrow b q).1; omega)
  · have := ownsRow_setCell_below hown (a := ⟨cb, 1, none⟩) (by show cb < cb + 1; omega) v'
    rw [List.length_append, List.map_append]
    exact this
  · have := ((Below.refl 0 w3).setCell (p := ⟨cb, 1, none⟩) (Nat.zero_le _) v').os
    rw [this, hg.os]; show u.os = _; rw [ku.os, bV.os]
  · have := ((Below.refl 0 w3).setCell (p := ⟨cb, 1, none⟩) (Nat.zero_le _) v').tape
    rw [this, hg.tape]; show u.tape = _; rw [ku.tape, bV.tape]
  · have := ((Below.refl 0 w3).setCell (p := ⟨cb, 1, none⟩) (Nat.zero_le _) v').output
    rw [this, hg.output]; show u.output = _; rw [ku.output, bV.output]
  · have h1 : k ≠ mb := fun q => hs (.inl q)
    have h2 : k ≠ cb := fun q => hs (.inr (.inl q))
    rw [heap_setCell_other _ _ _ _ (by simpa using h2)]
    exact f3 k hk h1 (fun q => hs (.inr (.inr q)))

/-- A leaf was looked at. -/
theorem CkAt.leafed {w w' : World} {cb p : Nat} {A : Nat → Prop} {P : PG} {l : LG} {d : DG} {pv : Value} {L : List Nat} {mb : Nat} {D : DataW Value} {next : Nat} {ln : Bool} (h : CkAt w cb p A P l d pv L mb D next ln) {nx : Nat} (hb : CkB w' cb p pv mb nx true) (k : Kept (fun k => k = cb) w w') : CkAt w' cb p A P l d pv L mb D nx true := by
  have hmc := h.mc
  refine ⟨h.sys.same (fun b hb => k.block b (h.sys.lt b hb) (by have := h.am b hb; show ¬ b = cb; omega)) k.size, hb, h.met.same (k.block mb h.met.lt (by show ¬ mb = cb; omega)), h.has, h.val, ?_, h.am, hmc, h.len⟩
  refine h.row.kept (row := some cb) ⟨k.os, k.tape, k.output, k.size, fun i hi q => k.block i hi (fun e => q (by rw [e]))⟩ ?_
  cases e : pv.ownBlock with
  | none => exact .inl rfl
  | some q => right; intro e2; have := (h.row.lt q e).1; simp at e2; omega

theorem Kept.and {S T : Nat → Prop} {w v u : World} (h : Kept S w v) (k : Kept T v u) (hT : ∀ i, T i → i < w.heap.size → S i) : Kept S w u :=
  ⟨k.os.trans h.os, k.tape.trans h.tape, k.output.trans h.output, Nat.le_trans h.size k.size, fun i hi hs => (k.block i (Nat.lt_of_lt_of_le hi h.size) fun q => hs (hT i q hi)).trans (h.block i hi hs)⟩

set_option maxHeartbeats 6400000 in
set_option maxRecDepth 20000 in
/-- check.page at a leaf, where one is asked for. -/
theorem page_leaf (h : CkAt w cb p A P l d pv L mb D next ln) (n : Nat) (h1 : 1 ≤ n) (h2 : n ≤ 2048) (hno : n ∉ L) (hL : L.length < 64) {f : FrV} (hf : P.F n = some f) (hfit : f.sh.Fits) (hB : leafB f.sh = true) (s : SpanV) :
    Calls Tryz.prog 29 #[.pointer (some ⟨cb, 0, none⟩), .int .u32 n, .int .i64 0, s.val] w fun r w' => (∃ b : Bool, r = .returned (.bool b) ∧ (b = true ↔ (ln = false ∨ next = n) ∧ LeafOk s (leafL f.sh)) ∧ (b = true → ∃ pv' D', CkAt w' cb p A P l d pv' (L ++ [n]) mb D' (nextF f.sh) true ∧ ∀ k, pv'.ownBlock = some k → pv.ownBlock = some k ∨ w.heap.size ≤ k)) ∧ Kept (CkS mb cb pv) w w' := by
  obtain ⟨W, HW⟩ : ∃ W, Hid (W = w.alloc (.cells #[.string s.fr.key, .int .u32 s.fr.page, .int .i64 s.fr.slot, .string s.tt.key, .int .u32 s.tt.page, .int .i64 s.tt.slot, .bool s.op] 88)) := ⟨_, rfl⟩
  have b1 : Below w.heap.size w W := by rw [HW.out]; exact (Below.refl _ _).alloc (Nat.le_refl _) _
  have sb : SBox W w.heap.size s := by rw [HW.out]; exact SBox.new _ _
  have hW := h.below b1
  have hk := hW.look (n := n) (by omega)
  rw [decide_eq_false hno] at hk
  obtain ⟨c0, c1, c2, c3, c4, c5⟩ := hW.box.cells
  have hlen := hfit.len
  have hMl : (leafL f.sh).length = f.sh.slots.length := leafL_length _
  obtain ⟨W1, HW1⟩ : ∃ W1, Hid (W1 = W.alloc (.cells #[] 131)) := ⟨_, rfl⟩
  have bW1 : Below W.heap.size W W1 := by rw [HW1.out]; exact (Below.refl _ _).alloc (Nat.le_refl _) _
  have B1 := below_chain b1 bW1
  obtain ⟨u, D', hu, hh, hv⟩ := h.meet (n := n) (by omega) hno
  obtain ⟨hrun, ku, hM⟩ := hu W1 B1
  clear hu
  have hmc := h.mc
  have hcl := h.box.lt
  have hrow := h.row.lt
  have huz := ku.size
  have hwz : w.heap.size < W.heap.size := by rw [HW.out]; simp
  have cu1 : (u W1).cell? ⟨cb, 1, none⟩ = some pv := by
    have := (h.box.below B1).cells.2.1
    exact (World.cell?_of_block (w := W1) (a := ⟨cb, 1, none⟩) (ku.block cb (by have := B1.size; omega) (by show ¬ cb = mb; omega))).trans this
  obtain ⟨V3, HV3⟩ : ∃ V3, Hid (V3 = (u W1).alloc (.cells #[.int .u32 n] 24)) := ⟨_, rfl⟩
  have hownV : Hid (V3.ownsRow (cb + 1) 24 1 pv L.length (L.map fun n : Nat => Value.int .u32 (n : Int))) := by
    have e1 := h.row.kept (row := none) (w' := W1) ⟨B1.os, B1.tape, B1.output, B1.size, fun i hi _ => B1.block i hi⟩ (by cases e : pv.ownBlock <;> simp)
    have e2 := e1.kept (row := some mb) (w' := u W1) ⟨ku.os, ku.tape, ku.output, ku.size, fun i hi q => ku.block i hi (fun e => q (by rw [e]))⟩ (by
      cases e : pv.ownBlock with
      | none => exact .inl rfl
      | some k => right; intro q; have := (hrow k e).1; simp at q; omega)
    rw [HV3.out]
    exact e2.alloc _
  obtain ⟨i0, hi, hz0, hz1, hz2⟩ := info_parts infoPage
  have hlenL := h.len
  unfold SpanV.val
  go_enter Tryz.func29, Tryz.ntmps29
  go_upto_region 1 with fail
  rw [← HW.out]
  clear HW
  go_upto_region 4 with fail
  rw [← HW1.out]
  obtain ⟨e0, e1, e2, e3, e4, e5⟩ := (hW.box.below bW1).cells
  clear HW1 c0 c1 c2 c3 c4 c5 hk
  have hnews : Hid (∀ j u', ([.int .u32 (n : Int)] : List Value)[j]? = some u' → V3.cell? ((⟨(u W1).heap.size, 0, none⟩ : Addr).add j) = some u') := by rw [HV3.out]; exact cell_one_new _ _ _
  rw [HV3.out] at hnews hownV
  go_upto_region 5 with fail
  go_wp2_with (at_builtin; refine wpList_append_lies _ rfl _ _ 38 rfl (cb + 1) 24 i0 _ 1 4 Tryz.underlying38 hi hz0 hz1 hz2 rfl (by decide) pv L.length (L.map fun n : Nat => Value.int .u32 (n : Int)) rfl hownV.out ⟨(u W1).heap.size, 0, none⟩ 1 1 [.int .u32 n] rfl rfl hnews.out (by intro u' hu'; simp at hu'; subst hu'; rfl) (by decide) (by unfold maxLen; omega) (by omega) (by have := B1.size; simp; omega) _ rfl ?_; intro g cap w3 hown3 hgrow3 hloc3 hlt3; obtain ⟨F1, F2, F3, F4, F5⟩ := h.pushed hL B1 ku hM hh hv _ hown3 hgrow3)
  obtain ⟨W4, HW4⟩ : ∃ W4, Hid (W4 = w3.setCell ⟨cb, 1, none⟩ (.slice (some ⟨g, 0, none⟩) (L.length + 1) cap)) := ⟨_, rfl⟩
  have hsb4 : W4.heap[w.heap.size]? = W.heap[w.heap.size]? := by
    have q1 : pv.ownBlock ≠ some w.heap.size := fun q => by have := (hrow _ q).2; omega
    have q2 : w.heap.size ≠ cb := by omega
    have q3 : w.heap.size < W1.heap.size := Nat.lt_of_lt_of_le hwz bW1.size
    rw [HW4.out, heap_setCell_other _ _ _ _ (by simpa using q2), hgrow3.block w.heap.size (by simp; omega) (fun q => q1 q.symm), heap_old _ _ (by omega), ku.block w.heap.size q3 (by show ¬ w.heap.size = mb; omega), bW1.block w.heap.size hwz]
  have sb4 := sb.same hsb4
  have hpv : Hid (∀ k, (Value.slice (some ⟨g, 0, none⟩) (L.length + 1) cap).ownBlock = some k → pv.ownBlock = some k ∨ w.heap.size ≤ k) := fun k hk => by
    have hk' : g = k := by simpa [Value.ownBlock] using hk
    subst hk'
    rcases hloc3 with q | q
    · exact .inl q
    · right; have := B1.size; simp at q; omega
  rw [← HW4.out] at F1 F2 ⊢
  have hcb := F1.box.lt
  have HFT := hidn (tfetch_leaf F1.sys n h1 h2 hf hfit hB)
  clear HW4 F3 F4 F5 hgrow3 hown3 hloc3 hlt3 hownV hnews hM ku hrun hh hv e0 e1 e2 e3 e4 e5 cu1 hW sb HV3
  refine HFT.out.mono ?_
  rintro r w5 ⟨a5, c5, rfl, r5, b5⟩
  rw [show f.sh.slots.length = (leafL f.sh).length from hMl.symm]
  have C5 := F1.below b5
  have K5 := F2.after b5
  have s5 := sb4.below b5 sb4.lt
  have hz5 : W4.heap.size ≤ w5.heap.size := b5.size
  have hm64 : (leafL f.sh).length ≤ 64 := by rw [hMl]; exact hlen
  obtain ⟨M, HMM⟩ : ∃ M, Hid (leafL f.sh = M) := ⟨_, rfl⟩
  obtain ⟨nx, HNX⟩ : ∃ nx, Hid (nextF f.sh = nx) := ⟨_, rfl⟩
  rw [HMM.out] at r5 hm64
  rw [HMM.out, HNX.out]
  clear F1 F2 HFT sb4 hsb4 hMl
  obtain ⟨W6, HW6⟩ : ∃ W6, Hid (W6 = w5.alloc (.cells #[.int .u32 n, .int .i64 0, .slice none 0 0, .int .u32 nx, .slice a5 M.length c5] 82)) := ⟨_, rfl⟩
  have k6 : Below w5.heap.size w5 W6 := by rw [HW6.out]; exact (Below.refl _ _).alloc (Nat.le_refl _) _
  have x6 : RowV W6 w5.heap.size 5 (five (.int .u32 n) (.int .i64 0) (.slice none 0 0) (.int .u32 nx) (.slice a5 M.length c5)) := by rw [HW6.out]; exact RowV.five_new _ _ _ _ _ _ _
  have C6 := C5.below k6
  have K6 := K5.after k6
  have s6 := s5.below k6 s5.lt
  have r6 := r5.belowF k6
  have hx6 : w5.heap.size < W6.heap.size := by rw [HW6.out]; simp
  have HIL := hidn (isLeaf_leaf n nx a5 M.length c5 W6)
  unfold leafS at HIL ⊢
  obtain ⟨q0, q1, q2, q3, q4⟩ := x6.cells5
  rw [HW6.out] at q0 q1 q2 q3 q4
  clear C5 K5 s5 r5
  go_wp2_with fail
  rw [← HW6.out]
  refine HIL.out.mono ?_
  rintro r w7 ⟨rfl, b7⟩
  have C7 := C6.below b7
  have K7 := K6.after b7
  have s7 := s6.below b7 s6.lt
  have r7 := r6.belowF b7
  have x7 := x6.below b7 hx6
  clear C6 K6 s6 r6 x6 HW6 HIL q0 q1 q2 q3 q4
  obtain ⟨q0, q1, q2, q3, q4⟩ := x7.cells5
  obtain ⟨t0, t1, t2, t3, t4, t5, t6, _⟩ := s7
  have hfar : ∀ b o, a5 = some ⟨b, o, none⟩ → M ≠ [] → b ≠ cb := fun b o e h0 => by
    rcases r7 with q | ⟨b', o', e', hb', _⟩
    · exact absurd q h0
    · rw [e'] at e; simp only [Option.some.injEq, Addr.mk.injEq, and_true] at e; omega
  by_cases hok : ln = false ∨ next = n
  · have HLF := hidn (cleaf_yes C7.box n nx a5 M c5 s r7.at hm64 hfar hok)
    unfold leafS SpanV.val at HLF
    go_wp2_with fail
    refine HLF.out.mono ?_
    rintro r w8 ⟨⟨b, rfl, hb⟩, hc8, k8⟩
    have hres : Hid (b = true ↔ (ln = false ∨ next = n) ∧ LeafOk s M) := by
      show _ ↔ _
      rw [hb]; exact ⟨fun q => ⟨hok, q⟩, fun q => q.2⟩
    have C8 := hidn (C7.leafed hc8 k8)
    have K8 := hidn (K7.and k8 fun i q _ => .inr (.inl q))
    clear t0 t1 t2 t3 t4 t5 t6 q0 q1 q2 q3 q4 hb hc8 k8 C7 K7 r7 x7 HLF hok hfar h
    go_wp2
    go_ret
    exact ⟨⟨b, rfl, by rw [HMM.out]; exact hres.out, fun _ => ⟨_, _, by rw [HNX.out]; exact C8.out, hpv.out⟩⟩, K8.out⟩
  · have hln : ln = true := by
      cases ln with
      | true => rfl
      | false => exact absurd (.inl rfl) hok
    have hne : next ≠ n := fun q => hok (.inr q)
    have hno2 := hidn (show ¬ ((ln = false ∨ next = n) ∧ LeafOk s M) from fun q => hok q.1)
    have cbx := C7.box
    rw [hln] at cbx
    have HLF := hidn (cleaf_no cbx n nx a5 M.length c5 s hne)
    unfold leafS SpanV.val at HLF
    clear hln cbx hok hfar h
    go_wp2_with fail
    refine HLF.out.mono ?_
    rintro r w8 ⟨rfl, b8⟩
    have K8 := hidn (K7.after b8)
    clear t0 t1 t2 t3 t4 t5 t6 q0 q1 q2 q3 q4 C7 K7 r7 x7 HLF
    go_wp2
    go_ret
    exact ⟨⟨false, rfl, by rw [HMM.out]; simpa using hno2.out, fun q => by cases q⟩, K8.out⟩

end

end Go.Proofs.YtpllidadpcahbaaGreat
