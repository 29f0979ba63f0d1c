/-
  A row of bytes that came out of a conversion, or of an append: its cells, an append of a text to it, and a text made of its part.
-/
import Derived.Test.YthmhigjdjclckaaDiskLogC
import Derived.Lib.FrozenHead
import Derived.Lib.ConvBytes
namespace Go.Proofs.Ythmhigjdjclckaa
open Go.RowKit
set_option linter.unusedVariables false

/-- The slice v holds the bytes l, in a row of its own (the mark of a conversion's row stands behind its cells). -/
def ByteRow (w : World) (v : Value) (l : List UInt8) : Prop :=
  (v = .slice none 0 0 ∧ l = []) ∨ ∃ g cap cur fz, v = .slice (some ⟨g, 0, none⟩) l.length cap ∧ w.heap[g]? = some (.cells cur 5 fz) ∧ (fz.2 = 0 ∨ cap ≤ fz.1) ∧ l.length ≤ cap ∧ cap ≤ maxLen ∧ cur.size = cap ∧ cur.toList.take l.length = cellsOf l

theorem ByteRow.block {w : World} {v : Value} {l : List UInt8} (h : ByteRow w v l) {g : Nat} (k : v.ownBlock = some g) : ∃ cur fz, w.heap[g]? = some (.cells cur 5 fz) := by
  rcases h with ⟨rfl, _⟩ | ⟨g', cap, cur, fz, rfl, hb, _⟩
  · cases k
  · cases k; exact ⟨cur, fz, hb⟩

theorem ByteRow.lt {w : World} {v : Value} {l : List UInt8} (h : ByteRow w v l) {g : Nat} (k : v.ownBlock = some g) : g < w.heap.size := by
  obtain ⟨cur, fz, hb⟩ := h.block k
  exact (Array.getElem?_eq_some_iff.1 hb).1

theorem ByteRow.same {w w' : World} {v : Value} {l : List UInt8} (h : ByteRow w v l) (k : ∀ g, v.ownBlock = some g → w'.heap[g]? = w.heap[g]?) : ByteRow w' v l := by
  rcases h with h | ⟨g', cap, cur, fz, rfl, hb, hr⟩
  · exact .inl h
  · exact .inr ⟨g', cap, cur, fz, rfl, (k g' rfl).trans hb, hr⟩

theorem ByteRow.slice {w : World} {v : Value} {l : List UInt8} (h : ByteRow w v l) : ∃ a c, v = .slice a l.length c := by
  rcases h with ⟨rfl, rfl⟩ | ⟨g', cap, cur, fz, rfl, _⟩
  · exact ⟨none, 0, rfl⟩
  · exact ⟨_, _, rfl⟩

theorem cellsOf_get {l : List UInt8} {j : Nat} (hj : j < l.length) : (cellsOf l)[j]? = some (.int .u8 (l[j].toNat : Int)) := by
  simp [cellsOf, hj]

theorem ByteRow.cell {w : World} {g cap : Nat} {l : List UInt8} {n : Nat} (h : ByteRow w (.slice (some ⟨g, 0, none⟩) n cap) l) (j : Nat) (hj : j < l.length) : w.cell? ⟨g, j, none⟩ = some (.int .u8 (l[j].toNat : Int)) := by
  rcases h with ⟨h, _⟩ | ⟨g', cap', cur, fz, e, hb, _, _, _, hc, ht⟩
  · cases h
  · simp only [Value.slice.injEq, Option.some.injEq, Addr.mk.injEq] at e
    obtain ⟨⟨rfl, _, _⟩, _, _⟩ := e
    have h1 := cellsOf_get hj
    rw [← ht, List.getElem?_take, if_pos hj] at h1
    rw [cell_of_row w g j cur _ fz hb]
    simpa using h1

/-- A row that is owned. -/
theorem ByteRow.of_owns {w : World} {v : Value} {l : List UInt8} (h : w.ownsRow 0 5 1 v l.length (cellsOf l)) : ByteRow w v l := by
  rcases h.2 with ⟨e, e2⟩ | ⟨g, cap, cur, rfl, _, hg, h1, h2, h3, h4⟩
  · exact .inl ⟨e, List.eq_nil_of_length_eq_zero e2⟩
  · exact .inr ⟨g, cap, cur, (0, 0), rfl, hg, .inl rfl, h1, h2, by simpa using h3, by simpa using h4⟩

/-- Cells put into a row whose mark stands behind them. -/
theorem storeCells_row (P : Program) (g o : Nat) (t : TypeId) (fz : Nat × Nat) : ∀ (vs : List Value) (i : Nat) (cur : Array Value) (w : World), w.heap[g]? = some (.cells cur t fz) → (fz.2 = 0 ∨ cur.size ≤ fz.1) → o + i + vs.length ≤ cur.size → (∀ v ∈ vs, v.oneCell' = true) →
    (storeCells ⟨g, o, none⟩ vs i).run P w = .ok () (w.setRow g (cur.toList.take (o + i) ++ vs ++ cur.toList.drop (o + i + vs.length)).toArray)
  | [], i, cur, w, hg, _, _, _ => by
    simp only [storeCells, List.append_nil, List.length_nil, Nat.add_zero, List.take_append_drop, Array.toArray_toList]
    rw [setRow_self w g cur t fz hg]
    rfl
  | v :: rest, i, cur, w, hg, hfz, hl, h1 => by
    have hi : o + i < cur.size := by simp at hl; omega
    have hadd : (⟨g, o, none⟩ : Addr).add i = ⟨g, o + i, none⟩ := by unfold Addr.add; split <;> simp_all
    have hcell : w.cell? ⟨g, o + i, none⟩ = some cur[o + i] := by simp [World.cell?, hg, hi]
    have hfro : w.frozen? ⟨g, o + i, none⟩ = false := by
      obtain ⟨lo, hi'⟩ := fz
      simp only [World.frozen?, hg, Bool.and_eq_false_iff, decide_eq_false_iff_not]
      simp only at hfz
      omega
    have hst : (store ((⟨g, o, none⟩ : Addr).add i) v).run P w = .ok () (w.setRow g (cur.setIfInBounds (o + i) v)) := by
      rw [hadd, run_store P w _ v _ (h1 v (by simp)), hcell]
      simp [hfro, setCell_eq_setRow w g (o + i) cur t fz v hg]
    have ih := storeCells_row P g o t fz rest (i + 1) (cur.setIfInBounds (o + i) v) (w.setRow g (cur.setIfInBounds (o + i) v)) (setRow_heap w g cur _ t _ hg) (by simpa using hfz) (by simp at hl ⊢; omega) (fun x hx => h1 x (by simp [hx]))
    simp only [storeCells, Sem.run_bind, hst, Result.andThen_ok, ih, setRow_setRow]
    congr 3
    have e := list_seg_step cur.toList (o + i) v rest (by simp at hl ⊢; omega)
    simpa [Array.toList_setIfInBounds, Nat.add_assoc] using e

theorem run_row_room (w : World) (ty : TypeId) (g n cap : Nat) (cur : Array Value) (fz : Nat × Nat) (hg : w.heap[g]? = some (.cells cur 5 fz)) (hfz : fz.2 = 0 ∨ cur.size ≤ fz.1) (s : ByteArray)
    (hroom : n + s.size ≤ cap) (hfit : n + s.size ≤ cur.size) :
    (Builtin.append_ #[57, 9] ty #[.slice (some ⟨g, 0, none⟩) n cap, .string s]).run Try.prog w =
      .ok (.slice (some ⟨g, 0, none⟩) (n + s.size) cap) (w.setRow g (cur.toList.take n ++ Lib.strCells s ++ cur.toList.drop (n + s.size)).toArray) := by
  obtain ⟨i0, hi, hz0, hz1, hz2⟩ := info_parts infoB
  have hf := Lib.run_firstCells_string (P := Try.prog) w 1 s
  have hst := storeCells_row Try.prog g n 5 fz (Lib.strCells s) 0 cur w hg hfz (by simpa [Lib.strCells_length] using hfit) (Lib.strCells_oneCell s)
  simp only [Nat.add_zero, Lib.strCells_length] at hst
  simp [Builtin.append_, run_underlying Try.underlying57, run_underlying Try.underlying9, sizeOf, typeInfo, hi, hz1, Builtin.lenOf, hroom, hf, Addr.add_lit, hst]

/-- A text behind a row of bytes. -/
theorem run_row_text (w : World) (ty : TypeId) (v : Value) (l : List UInt8) (hown : ByteRow w v l) (s : ByteArray) (hb : l.length + s.size ≤ 1000000000) :
    ∃ v' w', (Builtin.append_ #[57, 9] ty #[v, .string s]).run Try.prog w = .ok v' w' ∧ ByteRow w' v' (l ++ s.data.toList) ∧ w.grownBy w' v.ownBlock ∧ (∀ k, v'.ownBlock = some k → v.ownBlock = some k ∨ w.heap.size ≤ k) := by
  obtain ⟨i0, hi, hz0, hz1, hz2⟩ := info_parts infoB
  have hlen : (l ++ s.data.toList).length = l.length + s.size := by simp
  have hcells : cellsOf (l ++ s.data.toList) = cellsOf l ++ Lib.strCells s := by rw [strCells_eq]; simp [cellsOf]
  have hcl : (cellsOf l).length = l.length := by simp [cellsOf]
  rcases hown with ⟨rfl, rfl⟩ | ⟨g, cap, cur, fz, rfl, hg, hfz, hnc, hcm, hcs, htake⟩
  · obtain ⟨v', w', h1, h2, h3, h4⟩ := run_text_at w ty (.slice none 0 0) 0 [] (World.ownsRow_nil w 0 _ _) s (by simpa using hb)
    refine ⟨v', w', h1, ByteRow.of_owns ?_, h3, h4⟩
    rw [hlen, hcells]
    simpa [cellsOf] using h2
  · by_cases hroom : l.length + s.size ≤ cap
    · have hr := run_row_room w ty g l.length cap cur fz hg (by rw [hcs]; exact hfz) s hroom (by omega)
      refine ⟨_, _, hr, .inr ⟨g, cap, _, fz, by rw [hlen], setRow_heap w g cur _ _ _ hg, hfz, by omega, hcm, ?_, ?_⟩, ⟨rfl, rfl, rfl, by simp, fun k _ hk => setRow_other w g k _ (fun e => hk (by simp [Value.ownBlock, e]))⟩, fun k hk => .inl hk⟩
      · simp only [List.size_toArray, List.length_append, List.length_take, List.length_drop, Array.length_toList, Lib.strCells_length]
        omega
      · rw [htake, hcells]
        have e : (cellsOf l ++ Lib.strCells s).length = (l ++ s.data.toList).length := by rw [List.length_append, hcl, Lib.strCells_length, hlen]
        rw [← e]
        exact List.take_left
    · have holds : ∀ j u, (cellsOf l)[j]? = some u → w.cell? ((⟨g, 0, none⟩ : Addr).add j) = some u := by
        intro j u hu
        have hadd : (⟨g, 0, none⟩ : Addr).add j = ⟨g, j, none⟩ := by unfold Addr.add; split <;> simp_all
        rw [hadd, cell_of_row w g j cur _ fz hg]
        rw [← htake, List.getElem?_take] at hu
        split at hu
        · simpa using hu
        · cases hu
      have hr := Lib.run_append_grow_string (P := Try.prog) w 57 9 ty 5 i0 (.int .u8 0) Try.underlying57 Try.underlying9 hi hz0 ⟨g, 0, none⟩ l.length cap (cellsOf l) (by rw [hz1]; simpa using hcl) holds s (by omega) (by omega) (by rw [hz2]; exact growslice_fits (by omega) (by omega))
      have hge := grownCap_ge w (l.length + s.size) cap 5
      have hcm2 : grownCap w (l.length + s.size) cap 5 ≤ maxLen := grownCap_le_maxLen w (l.length + s.size) cap 5 (by unfold maxLen; omega)
      refine ⟨_, _, hr, .inr ⟨w.heap.size, _, _, (0, 0), by rw [hlen], heap_alloc_new w.drew _, .inl rfl, by rw [hlen]; exact hge, hcm2, ?_, ?_⟩, ⟨rfl, rfl, rfl, by simp, fun k hk _ => Go.heap_alloc_old w.drew _ hk⟩, fun k hk => .inr (by simp only [Value.ownBlock, Option.some.injEq] at hk; omega)⟩
      · have hz1 : (Value.int IntKind.u8 0).cells.size = 1 := rfl
        simp only [Array.size_append, List.size_toArray, size_zeroCells, hz1, hcl, Lib.strCells_length]
        omega
      · simp only [Array.toList_append, List.append_assoc]
        rw [← List.append_assoc, hcells]
        have e : (cellsOf l ++ Lib.strCells s).length = (l ++ s.data.toList).length := by rw [List.length_append, hcl, Lib.strCells_length, hlen]
        rw [← e]
        exact List.take_left

theorem wpList_row_text (w : World) {ops : Array Oper} {rest : List Oper} {o : Oper} {a : Act} {Q : Exit → Act → World → Prop} (hgd : o.guard = none) (sl x : Operand)
    (ho : o.op = .call { callee := .builtin .append, args := #[sl, x], argTypes := #[57, 9] }) (v : Value) (l : List UInt8) (hs : a.eval sl = v) (hown : ByteRow w v l) (s : ByteArray) (hx : a.eval x = .string s)
    (hb : l.length + s.size ≤ 1000000000)
    (h : ∀ v' w', ByteRow w' v' (l ++ s.data.toList) → w.grownBy w' v.ownBlock → (∀ k, v'.ownBlock = some k → v.ownBlock = some k ∨ w.heap.size ≤ k) → wpList Try.prog ops Q rest (a.put o.dst v') w') : wpList Try.prog ops Q (o :: rest) a w := by
  refine wpList_plain hgd fun K hK => ?_
  obtain ⟨v', w', hr, h2, h3, h4⟩ := run_row_text w o.type v l hown s hb
  unfold Oper.wp execOp
  simp only [ho, resolve, invoke, builtin, Sem.run_bind, Sem.run_pure, Result.andThen_ok, List.map_toArray, List.map_cons, List.map_nil, hs, hx, hr]
  exact hK _ _ (h v' w' h2 h3 h4)

/-- '[]byte(s)'. -/
theorem run_row_made (w : World) (s : ByteArray) (hs : s.size ≤ 1000000000) :
    ∃ v w', (convert 9 57 (.string s)).run Try.prog w = .ok v w' ∧ ByteRow w' v s.data.toList ∧ Below w.heap.size w w' ∧ (∀ k, v.ownBlock = some k → w.heap.size ≤ k) := by
  have hr := Lib.run_convert_string_bytes (P := Try.prog) w 9 57 5 s Try.underlying9 Try.underlying57 Try.underlying5
  have hge := grownCap_ge w s.size 0 5
  have hcm2 : grownCap w s.size 0 5 ≤ maxLen := grownCap_le_maxLen w s.size 0 5 (by unfold maxLen; omega)
  have hz : (Lib.bytesCells w 5 s).size = grownCap w s.size 0 5 := by
    simp [Lib.bytesCells]
    omega
  refine ⟨_, _, hr, .inr ⟨w.heap.size, _, _, _, by simp, Lib.bytesWorld_at_new w _ s, .inr (by rw [hz]; exact Nat.le_refl _), by simpa using hge, hcm2, hz, ?_⟩, ⟨rfl, rfl, rfl, by rw [Lib.bytesWorld_size]; omega, fun k hk => Lib.bytesWorld_at_old w _ s k hk⟩, fun k hk => by simp only [Value.ownBlock, Option.some.injEq] at hk; omega⟩
  simp only [Lib.bytesCells, Array.toList_append, Array.toList_map]
  rw [List.take_append_of_le_length (by simp), List.take_of_length_le (by simp)]
  rfl

end Go.Proofs.Ythmhigjdjclckaa
