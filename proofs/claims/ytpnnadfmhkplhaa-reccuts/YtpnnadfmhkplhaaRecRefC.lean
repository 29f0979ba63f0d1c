/-
  The walk of girderlaw04.ref.
-/
import Derived.Test.YtpnnadfmhkplhaaRecValC
import Derived.Test.YtpnnadfmhkplhaaRegionLastC
import Derived.Deep.AppendLies
import Derived.Deep.CutRange
namespace Go.Proofs.Ytpnnadfmhkplhaa
open Go.RowKit Go.Sort
set_option linter.unusedVariables false

/-- A whole block. -/
def BlkR (w : World) (p : Nat) (cs : Array Value) (t : TypeId) : Prop := w.heap[p]? = some (.cells cs t (0, 0))

theorem BlkR.cell {w : World} {p : Nat} {cs : Array Value} {t : TypeId} (h : BlkR w p cs t) (i : Nat) : w.cell? ⟨p, i, none⟩ = cs[i]? := by
  unfold BlkR at h
  simp [World.cell?, h]
theorem BlkR.frozen {w : World} {p : Nat} {cs : Array Value} {t : TypeId} (h : BlkR w p cs t) (i : Nat) : w.frozen? ⟨p, i, none⟩ = false := by
  unfold BlkR at h
  simp [World.frozen?, h]
theorem BlkR.set {w : World} {p : Nat} {cs : Array Value} {t : TypeId} (h : BlkR w p cs t) (i : Nat) (v : Value) : BlkR (w.setCell ⟨p, i, none⟩ v) p (cs.setIfInBounds i v) t := by
  unfold BlkR at h ⊢
  simp [World.setCell, Array.getElem?_modify, h]
theorem BlkR.same {w w' : World} {p : Nat} {cs : Array Value} {t : TypeId} (h : BlkR w p cs t) (e : w'.heap[p]? = w.heap[p]?) : BlkR w' p cs t := e.trans h
theorem BlkR.lt {w : World} {p : Nat} {cs : Array Value} {t : TypeId} (h : BlkR w p cs t) : p < w.heap.size := (Array.getElem?_eq_some_iff.1 h).1

theorem rowns_same {w w' : World} {e : TypeId} {z n : Nat} {v : Value} {xs : List Value} (h : w.ownsRow 0 e z v n xs) (k : ∀ g, v.ownBlock = some g → w'.heap[g]? = w.heap[g]?) : w'.ownsRow 0 e z v n xs := by
  refine ⟨h.1, ?_⟩
  rcases h.2 with ⟨rfl, h1⟩ | ⟨g', cap, cur, rfl, h0, hb, hr⟩
  · exact .inl ⟨rfl, h1⟩
  · exact .inr ⟨g', cap, cur, rfl, h0, (k g' rfl).trans hb, hr⟩

theorem rowns_cells {w : World} {e : TypeId} {z n : Nat} {g cap : Nat} {xs : List Value} (h : w.ownsRow 0 e z (.slice (some ⟨g, 0, none⟩) n cap) n xs) (k : Nat) (u : Value) (hk : xs[k]? = some u) : w.cell? ⟨g, k, none⟩ = some u := by
  rcases h.2 with ⟨e1, _⟩ | ⟨g', cap', cur, e1, _, hb, hn, hm, hs, ht⟩
  · cases e1
  · cases e1
    have hl : k < xs.length := (List.getElem?_eq_some_iff.1 hk).1
    rw [h.1] at hl
    have : cur.toList[k]? = some u := by
      rw [← ht, List.getElem?_take] at hk
      rw [if_pos hl] at hk
      exact hk
    simp only [World.cell?, hb]
    simpa using this

theorem rowns_apart {w : World} {e e' : TypeId} {z z' n n' : Nat} {v v' : Value} {xs xs' : List Value} (h : w.ownsRow 0 e z v n xs) (h' : w.ownsRow 0 e' z' v' n' xs') (hne : e ≠ e') : ∀ g, v.ownBlock = some g → v'.ownBlock ≠ some g := by
  intro g h1 h2
  rcases h.2 with ⟨rfl, _⟩ | ⟨g1, cap, cur, rfl, _, hb, _⟩
  · cases h1
  rcases h'.2 with ⟨rfl, _⟩ | ⟨g2, cap', cur', rfl, _, hb', _⟩
  · cases h2
  obtain rfl : g1 = g := Option.some.inj h1
  obtain rfl : g2 = g1 := Option.some.inj h2
  rw [hb] at hb'
  cases hb'
  exact hne rfl

def txCells (t : TxV) : List Value := [.int .i64 t.1, .int .i64 t.2.1, .int .u64 t.2.2.1, .int .u64 t.2.2.2]
def diCells (t : DiV) : List Value := [.int .u32 t.1, .int .u64 t.2]

/-- The cells of the document's record, its lists v and u. -/
def refCells (r : RecV) (v u : Value) : Array Value :=
  #[.int .i64 r.kind, .int .i64 r.tx, .int .u64 r.prev, .int .u64 r.next, .int .u32 r.page, .int .i64 r.op.kind, .int .i64 r.op.at', .string r.op.S, .string r.op.old, .int .i64 r.undo, .int .i64 r.index, .string r.key, .int .u32 r.rpage, .int .i64 r.rslot, .bool r.live, v, u]

def zeroCellsR : Array Value :=
  #[.int .i64 0, .int .i64 0, .int .u64 0, .int .u64 0, .int .u32 0, .int .i64 0, .int .i64 0, .string ⟨#[]⟩, .string ⟨#[]⟩, .int .i64 0, .int .i64 0, .string ⟨#[]⟩, .int .u32 0, .int .i64 0, .bool false, .slice none 0 0, .slice none 0 0]



section
variable {w wr : World} {r : RecV} {ta da : Option Addr} {tc dc : Nat} {v u : Value} {i j : Nat}







end

theorem flat_at {α : Type} (f : α → List Value) (z : Nat) (hz : ∀ x, (f x).length = z) : ∀ (H : List α) (m i : Nat) (hm : m < H.length) (hi : i < z), (H.flatMap f)[m * z + i]? = (f H[m])[i]?
  | [], m, i, hm, hi => by simp at hm
  | x :: H, 0, i, hm, hi => by
    rw [List.flatMap_cons, Nat.zero_mul, Nat.zero_add, List.getElem?_append_left (by rw [hz]; exact hi)]
    rfl
  | x :: H, m + 1, i, hm, hi => by
    rw [List.flatMap_cons, List.getElem?_append_right (by rw [hz]; have : (m + 1) * z = m * z + z := Nat.succ_mul m z; omega), hz]
    have e : (m + 1) * z + i - z = m * z + i := by have : (m + 1) * z = m * z + z := Nat.succ_mul m z; omega
    rw [e]
    exact flat_at f z hz H m i (by simpa using hm) hi

theorem owns_txs {w : World} {e : TypeId} {v : Value} {L : List TxV} (h : w.ownsRow 0 e 4 v L.length (L.flatMap txCells)) : ∃ a c, v = .slice a L.length c ∧ TxsAt w a L := by
  rcases h.2 with ⟨rfl, h1⟩ | ⟨g, cap, cur, rfl, h0, hb, hr⟩
  · rw [h1]
    exact ⟨none, 0, rfl, .inl (List.eq_nil_of_length_eq_zero h1)⟩
  · refine ⟨_, _, rfl, .inr ⟨g, 0, rfl, (h.lt g rfl).2, fun i hi => ?_⟩⟩
    have q : ∀ j x, j < 4 → (txCells L[i])[j]? = some x → w.cell? ⟨g, i * 4 + j, none⟩ = some x := fun j x hj hx => rowns_cells h _ _ ((flat_at txCells 4 (fun _ => rfl) L i j hi hj).trans hx)
    rw [Nat.zero_add]
    exact ⟨q 0 _ (by omega) rfl, q 1 _ (by omega) rfl, q 2 _ (by omega) rfl, q 3 _ (by omega) rfl⟩

theorem owns_dis {w : World} {e : TypeId} {v : Value} {L : List DiV} (h : w.ownsRow 0 e 2 v L.length (L.flatMap diCells)) : ∃ a c, v = .slice a L.length c ∧ DisAt w a L := by
  rcases h.2 with ⟨rfl, h1⟩ | ⟨g, cap, cur, rfl, h0, hb, hr⟩
  · rw [h1]
    exact ⟨none, 0, rfl, .inl (List.eq_nil_of_length_eq_zero h1)⟩
  · refine ⟨_, _, rfl, .inr ⟨g, 0, rfl, (h.lt g rfl).2, fun i hi => ?_⟩⟩
    have q : ∀ j x, j < 2 → (diCells L[i])[j]? = some x → w.cell? ⟨g, i * 2 + j, none⟩ = some x := fun j x hj hx => rowns_cells h _ _ ((flat_at diCells 2 (fun _ => rfl) L i j hi hj).trans hx)
    rw [Nat.zero_add]
    exact ⟨q 0 _ (by omega) rfl, q 1 _ (by omega) rfl⟩

end Go.Proofs.Ytpnnadfmhkplhaa
