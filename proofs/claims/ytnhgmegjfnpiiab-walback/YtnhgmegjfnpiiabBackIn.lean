/-
  Where girderlaw05.WalBack stands.
-/
import Derived.Test.YtnhgmegjfnpiiabWalGet
import Derived.Test.YtnhgmegjfnpiiabStrs
namespace Go.Proofs.Ytnhgmegjfnpiiab
open Go.RowKit
set_option linter.unusedVariables false

/-- A log of the call's own with its records, their places and their texts in two rows of the call's own. -/
structure BackIn (w W : World) (q : Nat) (pv tv : Value) (l : LG) (rs : List ByteArray) (S : Nat → Prop) : Prop where
  log : IsLog W q S l
  new : ∀ k, S k → w.heap.size ≤ k
  bel : Below w.heap.size w W
  recs : RecsAt l rs
  kept : l.kept = 0
  few : l.bytes.length ≤ 8204 * rs.length
  pl : W.ownsRow 0 33 1 pv rs.length (lsnCells l.starts)
  tx : W.ownsRow 0 9 1 tv rs.length (rs.map Value.string)
  offp : ∀ g, pv.ownBlock = some g → ¬ S g ∧ w.heap.size ≤ g
  offt : ∀ g, tv.ownBlock = some g → ¬ S g ∧ w.heap.size ≤ g

theorem BackIn.below {w W W' : World} {q : Nat} {pv tv : Value} {l : LG} {rs : List ByteArray} {S : Nat → Prop} (h : BackIn w W q pv tv l rs S) (b : Below W.heap.size W W') : BackIn w W' q pv tv l rs S :=
  ⟨h.log.below b, h.new, below_chain h.bel b, h.recs, h.kept, h.few, owns_same h.pl fun g k => b.block g (owns_lt h.pl k), owns_same h.tx fun g k => b.block g (owns_lt h.tx k), h.offp, h.offt⟩

/-- The rows' blocks are of two makes. -/
theorem BackIn.apart {w W : World} {q : Nat} {pv tv : Value} {l : LG} {rs : List ByteArray} {S : Nat → Prop} (h : BackIn w W q pv tv l rs S) {g : Nat} (hp : pv.ownBlock = some g) : tv.ownBlock ≠ some g := by
  intro ht
  obtain ⟨cur, e⟩ := owns_block h.pl hp
  obtain ⟨cur', e'⟩ := owns_block h.tx ht
  unfold Blk at e e'
  rw [e] at e'
  simp only [Option.some.injEq, Obj.cells.injEq] at e'
  exact absurd e'.2.1 (by decide)

/-- What stands once the log has one record more: its place and its text are not in the rows yet. -/
structure BackMid (w W : World) (q : Nat) (pv tv : Value) (l : LG) (rs : List ByteArray) (r : ByteArray) (S : Nat → Prop) : Prop where
  log : IsLog W q S (putG l r)
  new : ∀ k, S k → w.heap.size ≤ k
  bel : Below w.heap.size w W
  recs : RecsAt l rs
  kept : l.kept = 0
  few : l.bytes.length ≤ 8204 * rs.length
  size : r.size ≤ 8192
  pl : W.ownsRow 0 33 1 pv rs.length (lsnCells l.starts)
  tx : W.ownsRow 0 9 1 tv rs.length (rs.map Value.string)
  offp : ∀ g, pv.ownBlock = some g → ¬ S g ∧ w.heap.size ≤ g
  offt : ∀ g, tv.ownBlock = some g → ¬ S g ∧ w.heap.size ≤ g

theorem BackIn.put {w W W' : World} {q : Nat} {pv tv : Value} {l : LG} {rs : List ByteArray} {S S' : Nat → Prop} (h : BackIn w W q pv tv l rs S) {r : ByteArray} (hs : r.size ≤ 8192) (hl : IsLog W' q S' (putG l r)) (hm : Moves S S' W W') : BackMid w W' q pv tv l rs r S' := by
  have hz := h.bel.size
  refine ⟨hl, fun k x => (hm.2 k x).elim (h.new k) (fun y => Nat.le_trans hz y), below_kept h.bel hm.1 h.new, h.recs, h.kept, h.few, hs, owns_same h.pl fun g k => hm.1.block g (owns_lt h.pl k) (h.offp g k).1, owns_same h.tx fun g k => hm.1.block g (owns_lt h.tx k) (h.offt g k).1, fun g k => ?_, fun g k => ?_⟩
  · exact ⟨(hm.off (owns_lt h.pl k) (h.offp g k).1).2, (h.offp g k).2⟩
  · exact ⟨(hm.off (owns_lt h.tx k) (h.offt g k).1).2, (h.offt g k).2⟩

theorem BackMid.below {w W W' : World} {q : Nat} {pv tv : Value} {l : LG} {rs : List ByteArray} {r : ByteArray} {S : Nat → Prop} (h : BackMid w W q pv tv l rs r S) (b : Below W.heap.size W W') : BackMid w W' q pv tv l rs r S :=
  ⟨h.log.below b, h.new, below_chain h.bel b, h.recs, h.kept, h.few, h.size, owns_same h.pl fun g k => b.block g (owns_lt h.pl k), owns_same h.tx fun g k => b.block g (owns_lt h.tx k), h.offp, h.offt⟩

theorem BackMid.apart {w W : World} {q : Nat} {pv tv : Value} {l : LG} {rs : List ByteArray} {r : ByteArray} {S : Nat → Prop} (h : BackMid w W q pv tv l rs r S) {g : Nat} (hp : pv.ownBlock = some g) : tv.ownBlock ≠ some g := by
  intro ht
  obtain ⟨cur, e⟩ := owns_block h.pl hp
  obtain ⟨cur', e'⟩ := owns_block h.tx ht
  unfold Blk at e e'
  rw [e] at e'
  simp only [Option.some.injEq, Obj.cells.injEq] at e'
  exact absurd e'.2.1 (by decide)

theorem BackMid.txAt {w W w4 : World} {q : Nat} {pv tv : Value} {l : LG} {rs : List ByteArray} {r : ByteArray} {S : Nat → Prop} (h : BackMid w W q pv tv l rs r S) (g1 : W.grownBy w4 pv.ownBlock) : w4.ownsRow 0 9 1 tv rs.length (rs.map Value.string) :=
  owns_same h.tx fun g k => g1.block g (owns_lt h.tx k) fun e => h.apart e.symm k

theorem BackMid.done {w W w4 V w5 : World} {q : Nat} {pv tv pv' tv' : Value} {l : LG} {rs : List ByteArray} {r : ByteArray} {S : Nat → Prop} (h : BackMid w W q pv tv l rs r S)
    (g1 : W.grownBy w4 pv.ownBlock) (o1 : w4.ownsRow 0 33 1 pv' (rs.length + 1) (lsnCells l.starts ++ [.int .u64 ((l.bytes.length : Int) + 1)])) (l1 : ∀ k, pv'.ownBlock = some k → pv.ownBlock = some k ∨ W.heap.size ≤ k)
    (b : Below w4.heap.size w4 V) (g2 : V.grownBy w5 tv.ownBlock) (o2 : w5.ownsRow 0 9 1 tv' (rs.length + 1) (rs.map Value.string ++ [.string r])) (l2 : ∀ k, tv'.ownBlock = some k → tv.ownBlock = some k ∨ V.heap.size ≤ k) :
    BackIn w w5 q pv' tv' (putG l r) (rs ++ [r]) S := by
  have hz := h.bel.size
  have hz1 := g1.size
  have hz2 := b.size
  have hz3 := g2.size
  have htx := h.txAt g1
  have key : ∀ k, k < W.heap.size → pv.ownBlock ≠ some k → tv.ownBlock ≠ some k → w5.heap[k]? = W.heap[k]? := fun k hk n1 n2 =>
    (g2.block k (by omega) fun e => n2 e.symm).trans ((b.block k (by omega)).trans (g1.block k hk fun e => n1 e.symm))
  have keyS : ∀ k, S k → w5.heap[k]? = W.heap[k]? := fun k hk => key k (h.log.lt hk) (fun e => (h.offp k e).1 hk) (fun e => (h.offt k e).1 hk)
  have hlen : (rs ++ [r]).length = rs.length + 1 := by simp
  have hbel : Below w.heap.size w w5 := by
    refine ⟨g2.os.trans (b.os.trans (g1.os.trans h.bel.os)), g2.tape.trans (b.tape.trans (g1.tape.trans h.bel.tape)), g2.output.trans (b.output.trans (g1.output.trans h.bel.output)), by omega, fun k hk => ?_⟩
    exact (key k (by omega) (fun e => by have := (h.offp k e).2; omega) (fun e => by have := (h.offt k e).2; omega)).trans (h.bel.block k hk)
  have hpt : ∀ k, pv'.ownBlock = some k → tv.ownBlock ≠ some k := by
    intro k hk ht
    rcases l1 k hk with e | e
    · exact h.apart e ht
    · have := owns_lt h.tx ht; omega
  refine ⟨h.log.same keyS (by omega), h.new, hbel, h.recs.snoc r, h.kept, ?_, ?_, ?_, ?_, ?_⟩
  · show (l.bytes ++ frameL _ _).length ≤ _
    have := h.few
    have := h.size
    rw [List.length_append, frameL_length, hlen]
    simp only [Array.length_toList, ByteArray.size_data]
    omega
  · rw [hlen]
    show w5.ownsRow 0 33 1 pv' (rs.length + 1) (lsnCells (l.starts ++ [l.bytes.length + 1]))
    rw [← lsn_push]
    exact owns_same o1 fun g k => (g2.block g (by have := owns_lt o1 k; omega) fun e => hpt g k e.symm).trans (b.block g (owns_lt o1 k))
  · rw [hlen, List.map_append]
    exact o2
  · intro g k
    rcases l1 g k with e | e
    · exact h.offp g e
    · exact ⟨fun x => by have := h.log.lt x; omega, by omega⟩
  · intro g k
    rcases l2 g k with e | e
    · exact h.offt g e
    · exact ⟨fun x => by have := h.log.lt x; omega, by omega⟩

end Go.Proofs.Ytnhgmegjfnpiiab
