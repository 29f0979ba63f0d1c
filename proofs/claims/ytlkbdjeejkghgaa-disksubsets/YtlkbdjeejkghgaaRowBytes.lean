/-
  A row of bytes that may be written (as in PutWalks, without a program's functions).
-/
import Derived.Test.YtlkbdjeejkghgaaProg
import Derived.WalkKit
import Derived.WalkSpells
import Derived.WalkLawsBesides
import Derived.Deep.OwnRows
namespace Go.Proofs.Ytlkbdjeejkghgaa
open Go.RowKit

/-- A row of N bytes that may be written: cell j holds f j. -/
def RowU (w : World) (b N : Nat) (f : Nat → Int) : Prop :=
  ∀ j, j < N → w.cell? ⟨b, j, none⟩ = some (.int .u8 (f j)) ∧ w.frozen? ⟨b, j, none⟩ = false

theorem RowU.congr {w : World} {b N : Nat} {f g : Nat → Int} (h : RowU w b N f) (e : ∀ j, j < N → f j = g j) : RowU w b N g :=
  fun j hj => by rw [← e j hj]; exact h j hj

theorem RowU.set {w : World} {b N : Nat} {f : Nat → Int} (h : RowU w b N f) {k : Nat} (hk : k < N) (v : Int) :
    RowU (w.setCell ⟨b, k, none⟩ (.int .u8 v)) b N (fun j => if j = k then v else f j) := by
  intro j hj
  refine ⟨?_, by rw [World.frozen?_setCell]; exact (h j hj).2⟩
  by_cases e : j = k
  · subst e; simp only [if_pos]; exact World.cell?_setCell_same _ _ _ (h j hj).1
  · simp only [if_neg e]; rw [World.cell?_setCell_other _ _ _ _ (by intro q; exact e (by simpa using q.symm))]; exact (h j hj).1

theorem RowU.made (w : World) (N : Nat) (t : TypeId) : RowU (w.alloc (.cells (madeCells #[.int .u8 0] N) t)) w.heap.size N (fun _ => 0) := by
  intro j hj
  refine ⟨?_, by simp⟩
  rw [World.cell?_alloc_new]
  have h : (madeCells #[Value.int .u8 0] N).toList[j]? = some (.int .u8 0) := by
    rw [toList_madeCells_one]; simp [hj]
  simpa using h

/-- 'string(b)' of such a row. -/
theorem RowU.toString {P : Program} {w : World} {b N c : Nat} {f : Nat → Int} (h : RowU w b N f) (l : List UInt8) (hl : l.length = N) (e : ∀ j (hj : j < l.length), f j = (l[j].toNat : Int))
    (src dst el : TypeId) (hs : P.underlying src = some (.slice el)) (he : P.underlying el = some (.int .u8)) (hd : P.underlying dst = some .string) :
    (convert src dst (.slice (some ⟨b, 0, none⟩) N c)).run P w = .ok (.string ⟨l.toArray⟩) w := by
  subst hl
  refine run_convert_bytes_back w src dst el ⟨b, 0, none⟩ c l hs he hd (fun j hj => ?_)
  have := (h j hj).1
  rw [← e j hj, ← this]
  by_cases h0 : j = 0
  · subst h0; simp [Addr.add]
  · simp [Addr.add, h0]

end Go.Proofs.Ytlkbdjeejkghgaa
