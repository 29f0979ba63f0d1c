/-
  Where girderlaw04.RecSame stands behind its first statement: two records as the document has them.
-/
import Derived.Test.YtdkjbnnldbmkmaaRecAwake
import Derived.Test.YtdkjbnnldbmkmaaRowStep
namespace Go.Proofs.Ytdkjbnnldbmkmaa
open Go.RowKit Go.Sort
set_option linter.unusedVariables false

def OffR (n : Nat) (a : Option Addr) (p : Nat) : Prop := n = 0 ∨ ∀ x, a = some x → x.block ≠ p

theorem off_t {W : World} {a : Option Addr} {L : List TxV} (h : TxsAt W a L) : OffR L.length a W.heap.size := by
  rcases h with rfl | ⟨b, o, e, hb, _⟩
  · exact .inl rfl
  · exact .inr fun x hx => by rw [e] at hx; obtain rfl := Option.some.inj hx; exact Nat.ne_of_lt hb
theorem off_d {W : World} {a : Option Addr} {L : List DiV} (h : DisAt W a L) : OffR L.length a W.heap.size := by
  rcases h with rfl | ⟨b, o, e, hb, _⟩
  · exact .inl rfl
  · exact .inr fun x hx => by rw [e] at hx; obtain rfl := Option.some.inj hx; exact Nat.ne_of_lt hb
theorem off_new {n m p : Nat} {a : Option Addr} (h : NewR n a) (hp : p < n) : OffR m a p := .inr fun x hx => by have := h x hx; omega

theorem TxsAt.row {W : World} {a : Option Addr} {L : List TxV} {p : Nat} {c : Array Value} (h : TxsAt W a L) (ho : OffR L.length a p) : TxsAt (W.setRow p c) a L := by
  rcases h with h | ⟨b, o, e, hb, hc⟩
  · exact .inl h
  · rcases ho with ho | ho
    · exact .inl (List.eq_nil_of_length_eq_zero ho)
    · exact .inr ⟨b, o, e, by simpa [World.setRow] using hb, fun i hi => (hc i hi).same (setRow_other W p b c (ho _ e))⟩
theorem DisAt.row {W : World} {a : Option Addr} {L : List DiV} {p : Nat} {c : Array Value} (h : DisAt W a L) (ho : OffR L.length a p) : DisAt (W.setRow p c) a L := by
  rcases h with h | ⟨b, o, e, hb, hc⟩
  · exact .inl h
  · rcases ho with ho | ho
    · exact .inl (List.eq_nil_of_length_eq_zero ho)
    · exact .inr ⟨b, o, e, by simpa [World.setRow] using hb, fun i hi => (hc i hi).same (setRow_other W p b c (ho _ e))⟩

structure PairAt (w W : World) (a b : RecV) (ca cb : Array Value) (p q : Nat) (ta da tb db : Option Addr) (tc dc uc vc : Nat) : Prop where
  bel : Below w.heap.size w W
  pa : W.heap[w.heap.size]? = some (.cells ca 35 (0, 0))
  pb : W.heap[w.heap.size + 1]? = some (.cells cb 35 (0, 0))
  xa : BlkR W p (a.cells ta da tc dc) 46
  xb : BlkR W q (b.cells tb db uc vc) 46
  at1 : TxsAt W ta a.txs
  at2 : DisAt W da a.dirty
  bt1 : TxsAt W tb b.txs
  bt2 : DisAt W db b.dirty

theorem PairAt.below {w W W' : World} {a b : RecV} {ca cb : Array Value} {p q : Nat} {ta da tb db : Option Addr} {tc dc uc vc : Nat} (h : PairAt w W a b ca cb p q ta da tb db tc dc uc vc) (k : Below W.heap.size W W') : PairAt w W' a b ca cb p q ta da tb db tc dc uc vc :=
  ⟨below_chain h.bel k, (k.block _ (Array.getElem?_eq_some_iff.1 h.pa).1).trans h.pa, (k.block _ (Array.getElem?_eq_some_iff.1 h.pb).1).trans h.pb, (k.block _ h.xa.lt).trans h.xa, (k.block _ h.xb.lt).trans h.xb, h.at1.below k, h.at2.below k, h.bt1.below k, h.bt2.below k⟩

/-- What stands ahead of the two stores. -/
structure PairMid (w W : World) (a b : RecV) (ca cb : Array Value) (p q : Nat) (ta da tb db : Option Addr) : Prop where
  bel : Below w.heap.size w W
  pa : W.heap[w.heap.size]? = some (.cells ca 35 (0, 0))
  pb : W.heap[w.heap.size + 1]? = some (.cells cb 35 (0, 0))
  xa : BlkR W p zeroCellsR 46
  xb : BlkR W q zeroCellsR 46
  hp : w.heap.size + 2 ≤ p
  hq : w.heap.size + 2 ≤ q
  ne : p ≠ q
  at1 : TxsAt W ta a.txs ∧ OffR a.txs.length ta p ∧ OffR a.txs.length ta q
  at2 : DisAt W da a.dirty ∧ OffR a.dirty.length da p ∧ OffR a.dirty.length da q
  bt1 : TxsAt W tb b.txs ∧ OffR b.txs.length tb p ∧ OffR b.txs.length tb q
  bt2 : DisAt W db b.dirty ∧ OffR b.dirty.length db p ∧ OffR b.dirty.length db q

theorem PairMid.done {w W : World} {a b : RecV} {ca cb : Array Value} {p q : Nat} {ta da tb db : Option Addr} (h : PairMid w W a b ca cb p q ta da tb db) (tc dc uc vc : Nat) : PairAt w ((W.setRow p (a.cells ta da tc dc)).setRow q (b.cells tb db uc vc)) a b ca cb p q ta da tb db tc dc uc vc := by
  have hp := h.hp
  have hq := h.hq
  have hne := h.ne
  refine ⟨below_setRow (below_setRow h.bel (by omega) _) (by omega) _, ?_, ?_, ?_, ?_, (h.at1.1.row h.at1.2.1).row h.at1.2.2, (h.at2.1.row h.at2.2.1).row h.at2.2.2, (h.bt1.1.row h.bt1.2.1).row h.bt1.2.2, (h.bt2.1.row h.bt2.2.1).row h.bt2.2.2⟩
  · exact (setRow_other _ _ _ _ (by omega)).trans ((setRow_other _ _ _ _ (by omega)).trans h.pa)
  · exact (setRow_other _ _ _ _ (by omega)).trans ((setRow_other _ _ _ _ (by omega)).trans h.pb)
  · exact (setRow_other _ _ _ _ hne).trans (setRow_heap W _ _ _ _ _ h.xa)
  · exact setRow_heap _ _ _ _ _ _ ((setRow_other _ _ _ _ (Ne.symm hne)).trans h.xb)

end Go.Proofs.Ytdkjbnnldbmkmaa
