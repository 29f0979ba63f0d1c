/-
  The walk of girderlaw04.ref.
-/
import Derived.Test.YthhldkpocgiglaaRecValC
import Derived.Test.YthhldkpocgiglaaRegionLastC
import Derived.Deep.AppendLies
import Derived.Deep.CutRange
namespace Go.Proofs.Ythhldkpocgiglaa
open Go.RowKit Go.Sort
set_option linter.unusedVariables false

/-- A whole block. -/
def BlkR (w : World) (p : Nat) (cs : Array Value) (t : TypeId) : Prop := w.heap[p]? = some (.cells cs t (0, 0))

theorem BlkR.cell {w : World} {p : Nat} {cs : Array Value} {t : TypeId} (h : BlkR w p cs t) (i : Nat) : w.cell? ⟨p, i, none⟩ = cs[i]? := by
  unfold BlkR at h
  simp [World.cell?, h]
theorem BlkR.frozen {w : World} {p : Nat} {cs : Array Value} {t : TypeId} (h : BlkR w p cs t) (i : Nat) : w.frozen? ⟨p, i, none⟩ = false := by
  unfold BlkR at h
  simp [World.frozen?, h]
theorem BlkR.set {w : World} {p : Nat} {cs : Array Value} {t : TypeId} (h : BlkR w p cs t) (i : Nat) (v : Value) : BlkR (w.setCell ⟨p, i, none⟩ v) p (cs.setIfInBounds i v) t := by
  unfold BlkR at h ⊢
  simp [World.setCell, Array.getElem?_modify, h]
theorem BlkR.same {w w' : World} {p : Nat} {cs : Array Value} {t : TypeId} (h : BlkR w p cs t) (e : w'.heap[p]? = w.heap[p]?) : BlkR w' p cs t := e.trans h
theorem BlkR.lt {w : World} {p : Nat} {cs : Array Value} {t : TypeId} (h : BlkR w p cs t) : p < w.heap.size := (Array.getElem?_eq_some_iff.1 h).1

theorem rowns_same {w w' : World} {e : TypeId} {z n : Nat} {v : Value} {xs : List Value} (h : w.ownsRow 0 e z v n xs) (k : ∀ g, v.ownBlock = some g → w'.heap[g]? = w.heap[g]?) : w'.ownsRow 0 e z v n xs := by
  refine ⟨h.1, ?_⟩
  rcases h.2 with ⟨rfl, h1⟩ | ⟨g', cap, cur, rfl, h0, hb, hr⟩
  · exact .inl ⟨rfl, h1⟩
  · exact .inr ⟨g', cap, cur, rfl, h0, (k g' rfl).trans hb, hr⟩

theorem rowns_cells {w : World} {e : TypeId} {z n : Nat} {g cap : Nat} {xs : List Value} (h : w.ownsRow 0 e z (.slice (some ⟨g, 0, none⟩) n cap) n xs) (k : Nat) (u : Value) (hk : xs[k]? = some u) : w.cell? ⟨g, k, none⟩ = some u := by
  rcases h.2 with ⟨e1, _⟩ | ⟨g', cap', cur, e1, _, hb, hn, hm, hs, ht⟩
  · cases e1
  · cases e1
    have hl : k < xs.length := (List.getElem?_eq_some_iff.1 hk).1
    rw [h.1] at hl
    have : cur.toList[k]? = some u := by
      rw [← ht, List.getElem?_take] at hk
      rw [if_pos hl] at hk
      exact hk
    simp only [World.cell?, hb]
    simpa using this

theorem rowns_apart {w : World} {e e' : TypeId} {z z' n n' : Nat} {v v' : Value} {xs xs' : List Value} (h : w.ownsRow 0 e z v n xs) (h' : w.ownsRow 0 e' z' v' n' xs') (hne : e ≠ e') : ∀ g, v.ownBlock = some g → v'.ownBlock ≠ some g := by
  intro g h1 h2
  rcases h.2 with ⟨rfl, _⟩ | ⟨g1, cap, cur, rfl, _, hb, _⟩
  · cases h1
  rcases h'.2 with ⟨rfl, _⟩ | ⟨g2, cap', cur', rfl, _, hb', _⟩
  · cases h2
  obtain rfl : g1 = g := Option.some.inj h1
  obtain rfl : g2 = g1 := Option.some.inj h2
  rw [hb] at hb'
  cases hb'
  exact hne rfl

def txCells (t : TxV) : List Value := [.int .i64 t.1, .int .i64 t.2.1, .int .u64 t.2.2.1, .int .u64 t.2.2.2]
def diCells (t : DiV) : List Value := [.int .u32 t.1, .int .u64 t.2]

/-- The cells of the document's record, its lists v and u. -/
def refCells (r : RecV) (v u : Value) : Array Value :=
  #[.int .i64 r.kind, .int .i64 r.tx, .int .u64 r.prev, .int .u64 r.next, .int .u32 r.page, .int .i64 r.op.kind, .int .i64 r.op.at', .string r.op.S, .string r.op.old, .int .i64 r.undo, .int .i64 r.index, .string r.key, .int .u32 r.rpage, .int .i64 r.rslot, .bool r.live, v, u]

def zeroCellsR : Array Value :=
  #[.int .i64 0, .int .i64 0, .int .u64 0, .int .u64 0, .int .u32 0, .int .i64 0, .int .i64 0, .string ⟨#[]⟩, .string ⟨#[]⟩, .int .i64 0, .int .i64 0, .string ⟨#[]⟩, .int .u32 0, .int .i64 0, .bool false, .slice none 0 0, .slice none 0 0]

/-- Where ref stands. -/
structure RefAt (w wr : World) (r : RecV) (ta da : Option Addr) (tc dc : Nat) (v u : Value) (i j : Nat) : Prop where
  bel : Below w.heap.size w wr
  par : BlkR wr w.heap.size (r.cells ta da tc dc) 35
  res : BlkR wr (w.heap.size + 1) zeroCellsR 46
  out : BlkR wr (w.heap.size + 2) (refCells r v u) 46
  txs : wr.ownsRow 0 68 4 v i ((r.txs.take i).flatMap txCells)
  dis : wr.ownsRow 0 74 2 u j ((r.dirty.take j).flatMap diCells)
  vOff : ∀ g, v.ownBlock = some g → w.heap.size + 3 ≤ g
  uOff : ∀ g, u.ownBlock = some g → w.heap.size + 3 ≤ g

section
variable {w wr : World} {r : RecV} {ta da : Option Addr} {tc dc : Nat} {v u : Value} {i j : Nat}

theorem RefAt.start : RefAt w (((w.alloc (.cells (r.cells ta da tc dc) 35)).alloc (.cells zeroCellsR 46)).alloc (.cells (refCells r (.slice none 0 0) (.slice none 0 0)) 46)) r ta da tc dc (.slice none 0 0) (.slice none 0 0) 0 0 := by
  have b1 : Below w.heap.size w (w.alloc (.cells (r.cells ta da tc dc) 35)) := (Below.refl _ _).alloc (Nat.le_refl _) _
  have b2 := b1.alloc (by simp) (.cells zeroCellsR 46)
  have b3 := b2.alloc (by simp; omega) (.cells (refCells r (.slice none 0 0) (.slice none 0 0)) 46)
  have n1 := heap_alloc_new w (.cells (r.cells ta da tc dc) 35)
  have n2 := heap_alloc_new (w.alloc (.cells (r.cells ta da tc dc) 35)) (.cells zeroCellsR 46)
  have n3 := heap_alloc_new ((w.alloc (.cells (r.cells ta da tc dc) 35)).alloc (.cells zeroCellsR 46)) (.cells (refCells r (.slice none 0 0) (.slice none 0 0)) 46)
  refine ⟨b3, ?_, ?_, ?_, World.ownsRow_nil _ _ _ _, World.ownsRow_nil _ _ _ _, fun g hg => (nomatch hg), fun g hg => (nomatch hg)⟩
  · exact (Below.heap_alloc _ _ _ (by simp; omega)).trans ((Below.heap_alloc _ _ _ (by simp)).trans n1)
  · have : (w.alloc (.cells (r.cells ta da tc dc) 35)).heap.size = w.heap.size + 1 := by simp
    rw [this] at n2
    exact (Below.heap_alloc _ _ _ (by simp)).trans n2
  · have : ((w.alloc (.cells (r.cells ta da tc dc) 35)).alloc (.cells zeroCellsR 46)).heap.size = w.heap.size + 2 := by simp
    rw [this] at n3
    exact n3

theorem RefAt.pushT (h : RefAt w wr r ta da tc dc v u i j) {wa w7 : World} {v' : Value} (hi : i < r.txs.length) (k1 : Below wr.heap.size wr wa) (o1 : w7.ownsRow 0 68 4 v' (i + 1) ((r.txs.take i).flatMap txCells ++ txCells r.txs[i])) (g1 : wa.grownBy w7 v.ownBlock)
    (l1 : v.ownBlock = v'.ownBlock ∨ ∃ z, v'.ownBlock = some z ∧ wr.heap.size ≤ z) : RefAt w (w7.setCell ⟨w.heap.size + 2, 15, none⟩ v') r ta da tc dc v' u (i + 1) j := by
  have hz := h.out.lt
  have s1 := k1.size
  have s2 := g1.size
  have kb : ∀ k, k < wr.heap.size → v.ownBlock ≠ some k → w7.heap[k]? = wr.heap[k]? := fun k hk n1 => (g1.block k (by omega) (fun e => n1 e.symm)).trans (k1.block k hk)
  have no : ∀ k, k < w.heap.size + 3 → v.ownBlock ≠ some k := fun k hk e => by have := h.vOff k e; omega
  have st : ∀ k, k ≠ w.heap.size + 2 → (w7.setCell ⟨w.heap.size + 2, 15, none⟩ v').heap[k]? = w7.heap[k]? := fun k hk => Below.heap_setCell _ _ _ _ hk
  have v'off : ∀ g, v'.ownBlock = some g → w.heap.size + 3 ≤ g := fun g hg => by
    rcases l1 with e | ⟨z, e, hz'⟩
    · exact h.vOff g (e.trans hg)
    · rw [e] at hg
      have := Option.some.inj hg
      omega
  refine ⟨?_, ?_, ?_, ?_, ?_, ?_, v'off, h.uOff⟩
  · exact ((h.bel.trans (k1.mono (by omega))).grown g1 (by have := h.bel.size; omega) fun k e => by have := h.vOff k e; omega).setCell (p := ⟨w.heap.size + 2, 15, none⟩) (by show w.heap.size ≤ w.heap.size + 2; omega) _
  · exact h.par.same ((st _ (by omega)).trans (kb _ (by omega) (no _ (by omega))))
  · exact h.res.same ((st _ (by omega)).trans (kb _ (by omega) (no _ (by omega))))
  · exact (h.out.same (kb _ hz (no _ (by omega)))).set 15 v'
  · rw [List.take_succ_eq_append_getElem hi, List.flatMap_append]
    simp only [List.flatMap_cons, List.flatMap_nil, List.append_nil]
    exact rowns_same o1 fun g hg => st g (by have := v'off g hg; omega)
  · exact rowns_same h.dis fun g hg => (st g (by have := h.uOff g hg; omega)).trans (kb g (h.dis.lt g hg).2 (fun e => rowns_apart h.txs h.dis (by decide) g e hg))

theorem RefAt.pushD (h : RefAt w wr r ta da tc dc v u i j) {wa w7 : World} {u' : Value} (hi : j < r.dirty.length) (k1 : Below wr.heap.size wr wa) (o1 : w7.ownsRow 0 74 2 u' (j + 1) ((r.dirty.take j).flatMap diCells ++ diCells r.dirty[j])) (g1 : wa.grownBy w7 u.ownBlock)
    (l1 : u.ownBlock = u'.ownBlock ∨ ∃ z, u'.ownBlock = some z ∧ wr.heap.size ≤ z) : RefAt w (w7.setCell ⟨w.heap.size + 2, 16, none⟩ u') r ta da tc dc v u' i (j + 1) := by
  have hz := h.out.lt
  have s1 := k1.size
  have s2 := g1.size
  have kb : ∀ k, k < wr.heap.size → u.ownBlock ≠ some k → w7.heap[k]? = wr.heap[k]? := fun k hk n1 => (g1.block k (by omega) (fun e => n1 e.symm)).trans (k1.block k hk)
  have no : ∀ k, k < w.heap.size + 3 → u.ownBlock ≠ some k := fun k hk e => by have := h.uOff k e; omega
  have st : ∀ k, k ≠ w.heap.size + 2 → (w7.setCell ⟨w.heap.size + 2, 16, none⟩ u').heap[k]? = w7.heap[k]? := fun k hk => Below.heap_setCell _ _ _ _ hk
  have u'off : ∀ g, u'.ownBlock = some g → w.heap.size + 3 ≤ g := fun g hg => by
    rcases l1 with e | ⟨z, e, hz'⟩
    · exact h.uOff g (e.trans hg)
    · rw [e] at hg
      have := Option.some.inj hg
      omega
  refine ⟨?_, ?_, ?_, ?_, ?_, ?_, h.vOff, u'off⟩
  · exact ((h.bel.trans (k1.mono (by omega))).grown g1 (by have := h.bel.size; omega) fun k e => by have := h.uOff k e; omega).setCell (p := ⟨w.heap.size + 2, 16, none⟩) (by show w.heap.size ≤ w.heap.size + 2; omega) _
  · exact h.par.same ((st _ (by omega)).trans (kb _ (by omega) (no _ (by omega))))
  · exact h.res.same ((st _ (by omega)).trans (kb _ (by omega) (no _ (by omega))))
  · exact (h.out.same (kb _ hz (no _ (by omega)))).set 16 u'
  · exact rowns_same h.txs fun g hg => (st g (by have := h.vOff g hg; omega)).trans (kb g (h.txs.lt g hg).2 (fun e => rowns_apart h.txs h.dis (by decide) g hg e))
  · rw [List.take_succ_eq_append_getElem hi, List.flatMap_append]
    simp only [List.flatMap_cons, List.flatMap_nil, List.append_nil]
    exact rowns_same o1 fun g hg => st g (by have := u'off g hg; omega)

end

theorem flat_at {α : Type} (f : α → List Value) (z : Nat) (hz : ∀ x, (f x).length = z) : ∀ (H : List α) (m i : Nat) (hm : m < H.length) (hi : i < z), (H.flatMap f)[m * z + i]? = (f H[m])[i]?
  | [], m, i, hm, hi => by simp at hm
  | x :: H, 0, i, hm, hi => by
    rw [List.flatMap_cons, Nat.zero_mul, Nat.zero_add, List.getElem?_append_left (by rw [hz]; exact hi)]
    rfl
  | x :: H, m + 1, i, hm, hi => by
    rw [List.flatMap_cons, List.getElem?_append_right (by rw [hz]; have : (m + 1) * z = m * z + z := Nat.succ_mul m z; omega), hz]
    have e : (m + 1) * z + i - z = m * z + i := by have : (m + 1) * z = m * z + z := Nat.succ_mul m z; omega
    rw [e]
    exact flat_at f z hz H m i (by simpa using hm) hi

theorem owns_txs {w : World} {e : TypeId} {v : Value} {L : List TxV} (h : w.ownsRow 0 e 4 v L.length (L.flatMap txCells)) : ∃ a c, v = .slice a L.length c ∧ TxsAt w a L := by
  rcases h.2 with ⟨rfl, h1⟩ | ⟨g, cap, cur, rfl, h0, hb, hr⟩
  · rw [h1]
    exact ⟨none, 0, rfl, .inl (List.eq_nil_of_length_eq_zero h1)⟩
  · refine ⟨_, _, rfl, .inr ⟨g, 0, rfl, (h.lt g rfl).2, fun i hi => ?_⟩⟩
    have q : ∀ j x, j < 4 → (txCells L[i])[j]? = some x → w.cell? ⟨g, i * 4 + j, none⟩ = some x := fun j x hj hx => rowns_cells h _ _ ((flat_at txCells 4 (fun _ => rfl) L i j hi hj).trans hx)
    rw [Nat.zero_add]
    exact ⟨q 0 _ (by omega) rfl, q 1 _ (by omega) rfl, q 2 _ (by omega) rfl, q 3 _ (by omega) rfl⟩

theorem owns_dis {w : World} {e : TypeId} {v : Value} {L : List DiV} (h : w.ownsRow 0 e 2 v L.length (L.flatMap diCells)) : ∃ a c, v = .slice a L.length c ∧ DisAt w a L := by
  rcases h.2 with ⟨rfl, h1⟩ | ⟨g, cap, cur, rfl, h0, hb, hr⟩
  · rw [h1]
    exact ⟨none, 0, rfl, .inl (List.eq_nil_of_length_eq_zero h1)⟩
  · refine ⟨_, _, rfl, .inr ⟨g, 0, rfl, (h.lt g rfl).2, fun i hi => ?_⟩⟩
    have q : ∀ j x, j < 2 → (diCells L[i])[j]? = some x → w.cell? ⟨g, i * 2 + j, none⟩ = some x := fun j x hj hx => rowns_cells h _ _ ((flat_at diCells 2 (fun _ => rfl) L i j hi hj).trans hx)
    rw [Nat.zero_add]
    exact ⟨q 0 _ (by omega) rfl, q 1 _ (by omega) rfl⟩

end Go.Proofs.Ythhldkpocgiglaa
