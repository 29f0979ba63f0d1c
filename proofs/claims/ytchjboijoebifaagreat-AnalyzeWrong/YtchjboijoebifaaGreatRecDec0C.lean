/-
  The walk of rec.Decode of thirteen bytes whose kind names neither a next place, nor a change, nor lists; girderlaw04.awake.
-/
import Derived.Test.YtchjboijoebifaaGreatRecEnc0C
import Derived.Test.YtchjboijoebifaaGreatReaderTakesJ
set_option linter.unusedVariables false
set_option linter.unusedSimpArgs false
namespace Go.Proofs.YtchjboijoebifaaGreat
open Go.RowKit Go.Sort

theorem IsReader.same {w w' : World} {b : Nat} {s : ByteArray} {p : Nat} {e : Int} (h : IsReader w b s p e) (k : w'.heap[b]? = w.heap[b]?) (hz : w.heap.size ≤ w'.heap.size) : IsReader w' b s p e :=
  ⟨(World.cell?_of_block (a := ⟨b, 0, none⟩) k).trans h.c0, (World.cell?_of_block (a := ⟨b, 1, none⟩) k).trans h.c1, (World.cell?_of_block (a := ⟨b, 2, none⟩) k).trans h.c2,
    (World.frozen?_of_block (a := ⟨b, 1, none⟩) k).trans h.f1, (World.frozen?_of_block (a := ⟨b, 2, none⟩) k).trans h.f2, h.le, h.sz, Nat.lt_of_lt_of_le h.lt hz⟩

structure DecAt (w wr : World) (s : ByteArray) (p : Nat) (e : Int) (cs : Array Value) : Prop where
  bel : Below w.heap.size w wr
  res : BlkR wr w.heap.size zeroCellsR 63
  rd : IsReader wr (w.heap.size + 1) s p e
  out : BlkR wr (w.heap.size + 1 + 1) cs 63

section
variable {w wr wx : World} {s : ByteArray} {p : Nat} {e : Int} {cs : Array Value}

theorem DecAt.only (h : DecAt w wr s p e cs) (o : Only (w.heap.size + 1) wr wx) {p' : Nat} {e' : Int} (hr : IsReader wx (w.heap.size + 1) s p' e') : DecAt w wx s p' e' cs :=
  ⟨o.below h.bel (by omega) (Nat.le_refl _), (o.block _ h.res.lt (by omega)).trans h.res, hr, (o.block _ h.out.lt (by omega)).trans h.out⟩

theorem DecAt.below (h : DecAt w wr s p e cs) (b : Below wr.heap.size wr wx) : DecAt w wx s p e cs :=
  ⟨below_chain h.bel b, (b.block _ h.res.lt).trans h.res, h.rd.below b, (b.block _ h.out.lt).trans h.out⟩

theorem DecAt.set (h : DecAt w wr s p e cs) (i : Nat) (v : Value) : DecAt w (wr.setCell ⟨w.heap.size + 1 + 1, i, none⟩ v) s p e (cs.setIfInBounds i v) :=
  ⟨h.bel.setCell (p := ⟨w.heap.size + 1 + 1, i, none⟩) (by show w.heap.size ≤ w.heap.size + 1 + 1; omega) _, (Below.heap_setCell _ _ _ _ (by show w.heap.size ≠ w.heap.size + 1 + 1; omega)).trans h.res,
    h.rd.same (Below.heap_setCell _ _ _ _ (by show w.heap.size + 1 ≠ w.heap.size + 1 + 1; omega)) (by simp), h.out.set i v⟩

theorem DecAt.start (w : World) (s : ByteArray) (hs : s.size ≤ 281474976710656) : DecAt w (((w.alloc (.cells zeroCellsR 63)).alloc (.cells #[.string s, .int .i64 0, .int .i64 0] 143)).alloc (.cells zeroCellsR 63)) s 0 0 zeroCellsR := by
  refine ⟨(((Below.refl _ _).alloc (Nat.le_refl _) _).alloc (by simp) _).alloc (by simp; omega) _, ?_, ?_, ?_⟩
  · exact (Below.heap_alloc _ _ _ (by simp; omega)).trans ((Below.heap_alloc _ _ _ (by simp)).trans (heap_alloc_new w _))
  · have := reader_new (w := w.alloc (.cells zeroCellsR 63)) (t := 143) hs ((Below.refl _ _).alloc (Nat.le_refl _) (.cells zeroCellsR 63))
    rw [show (w.alloc (.cells zeroCellsR 63)).heap.size = w.heap.size + 1 by simp] at this
    exact this
  · have e : ((w.alloc (.cells zeroCellsR 63)).alloc (.cells #[.string s, .int .i64 0, .int .i64 0] 143)).heap.size = w.heap.size + 1 + 1 := by simp
    have := heap_alloc_new ((w.alloc (.cells zeroCellsR 63)).alloc (.cells #[.string s, .int .i64 0, .int .i64 0] 143)) (.cells zeroCellsR 63)
    rw [e] at this
    exact this

end

def plainV (k x q : Nat) : RecV := ⟨k, x, q, 0, 0, ⟨0, 0, ⟨#[]⟩, ⟨#[]⟩⟩, 0, 0, ⟨#[]⟩, 0, 0, false, [], []⟩

end Go.Proofs.YtchjboijoebifaaGreat
