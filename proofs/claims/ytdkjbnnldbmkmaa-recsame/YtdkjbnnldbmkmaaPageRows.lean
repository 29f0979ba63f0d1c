/-
  Rows of values that may be written; the walks of page.zeros and page.takeCount.
-/
import Derived.Test.YtdkjbnnldbmkmaaPageEncode
import Derived.Test.YtdkjbnnldbmkmaaReaderMore
import Derived.Test.YtdkjbnnldbmkmaaNewReader
namespace Go.Proofs.Ytdkjbnnldbmkmaa
open Go.RowKit
set_option linter.unusedVariables false

/-- A row of N values that may be written: cell j holds f j. -/
def RowV (w : World) (b N : Nat) (f : Nat → Value) : Prop :=
  ∀ j, j < N → w.cell? ⟨b, j, none⟩ = some (f j) ∧ w.frozen? ⟨b, j, none⟩ = false

theorem RowV.congr {w : World} {b N : Nat} {f g : Nat → Value} (h : RowV w b N f) (e : ∀ j, j < N → f j = g j) : RowV w b N g :=
  fun j hj => by rw [← e j hj]; exact h j hj

theorem RowV.set {w : World} {b N : Nat} {f : Nat → Value} (h : RowV w b N f) {k : Nat} (hk : k < N) (v : Value) :
    RowV (w.setCell ⟨b, k, none⟩ v) b N (fun j => if j = k then v else f j) := by
  intro j hj
  refine ⟨?_, by rw [World.frozen?_setCell]; exact (h j hj).2⟩
  by_cases e : j = k
  · subst e; simp only [if_pos]; exact World.cell?_setCell_same _ _ _ (h j hj).1
  · simp only [if_neg e]; rw [World.cell?_setCell_other _ _ _ _ (by intro q; exact e (by simpa using q.symm))]; exact (h j hj).1

theorem RowV.set_other {w : World} {b N : Nat} {f : Nat → Value} (h : RowV w b N f) {b' k : Nat} (hk : b' ≠ b) (v : Value) : RowV (w.setCell ⟨b', k, none⟩ v) b N f := by
  intro j hj
  refine ⟨?_, by rw [World.frozen?_setCell]; exact (h j hj).2⟩
  rw [World.cell?_setCell_other _ _ _ _ (by intro q; exact hk (by simpa using congrArg Addr.block q))]; exact (h j hj).1

theorem RowV.made (w : World) (N : Nat) (z : Value) (hz : z.cells = #[z]) (t : TypeId) : RowV (w.alloc (.cells (madeCells #[z] N) t)) w.heap.size N (fun _ => z) := by
  intro j hj
  refine ⟨?_, by simp⟩
  rw [World.cell?_alloc_new]
  have h : (madeCells #[z] N).toList[j]? = some z := by
    rw [toList_madeCells_one]; simp [hj]
  simpa using h

theorem RowV.below {w w' : World} {b N : Nat} {f : Nat → Value} (h : RowV w b N f) {B : Nat} (k : Below B w w') (hb : b < B) : RowV w' b N f :=
  fun j hj => ⟨(k.cell (p := ⟨b, j, none⟩) hb).trans (h j hj).1, (k.frozen (p := ⟨b, j, none⟩) hb).trans (h j hj).2⟩

theorem Only.frozen {b : Nat} {w w' : World} (h : Only b w w') {p : Addr} (hp : p.block < w.heap.size) (hb : p.block ≠ b) : w'.frozen? p = w.frozen? p := World.frozen?_of_block (w := w) (h.block p.block hp hb)

theorem RowV.only {w w' : World} {b N : Nat} {f : Nat → Value} (h : RowV w b N f) {r : Nat} (k : Only r w w') (hb : b < w.heap.size) (hr : b ≠ r) : RowV w' b N f :=
  fun j hj => ⟨(k.cell (p := ⟨b, j, none⟩) hb hr).trans (h j hj).1, (k.frozen (p := ⟨b, j, none⟩) hb hr).trans (h j hj).2⟩

theorem Only.setNew {b : Nat} {w w' : World} (h : Only b w w') {k : Nat} (hk : w.heap.size ≤ k) (i : Nat) (v : Value) : Only b w (w'.setCell ⟨k, i, none⟩ v) :=
  ⟨h.os, h.tape, h.output, by simpa using h.size, fun j hj hb => (Below.heap_setCell _ _ _ _ (by simp; omega)).trans (h.block j hj hb)⟩

theorem IsReader.setOther {w : World} {b : Nat} {s : ByteArray} {p : Nat} {e : Int} (h : IsReader w b s p e) {k i : Nat} (hk : k ≠ b) (v : Value) : IsReader (w.setCell ⟨k, i, none⟩ v) b s p e := by
  have ne : ∀ o, (⟨k, i, none⟩ : Addr) ≠ ⟨b, o, none⟩ := fun o q => hk (congrArg Addr.block q)
  exact ⟨by rw [World.cell?_setCell_other _ _ _ _ (ne 0)]; exact h.c0, by rw [World.cell?_setCell_other _ _ _ _ (ne 1)]; exact h.c1, by rw [World.cell?_setCell_other _ _ _ _ (ne 2)]; exact h.c2,
    by rw [World.frozen?_setCell]; exact h.f1, by rw [World.frozen?_setCell]; exact h.f2, h.le, h.sz, by simpa using h.lt⟩

theorem infoInt : (Try.prog.info? 3).map (fun i => (i.zero, i.size, i.bytes)) = some (some (.int .i64 0), 1, 8) := by kernel_rfl
theorem infoStr : (Try.prog.info? 9).map (fun i => (i.zero, i.size, i.bytes)) = some (some (.string ⟨#[]⟩), 1, 16) := by kernel_rfl

/-- Are all bytes zeros? -/
def zerosB (l : List UInt8) : Bool := l.all fun x => x == 0

theorem zerosB_iff (l : List UInt8) : zerosB l = true ↔ l = List.replicate l.length 0 := by
  unfold zerosB
  induction l with
  | nil => simp
  | cons x l ih => simp only [List.all_cons, List.length_cons, List.replicate_succ, Bool.and_eq_true, beq_iff_eq, List.cons.injEq, ih]



section
variable {w : World} {b : Nat} {s : ByteArray} {p : Nat} {e : Int}

theorem number_err (h : IsReader w b s p e) (he : e ≠ 0) (n : Int) :
    Calls Try.prog 37 #[.pointer (some ⟨b, 0, none⟩), .int .i64 n] w fun x w' => x = .returned (.int .u64 0) ∧ IsReader w' b s p e ∧ Only b w w' := by
  have hn := number_any h n
  rw [numF_err he] at hn
  exact hn

theorem number_ok (h : IsReader w b s p 0) (n : Nat) (hn : n ≤ 8) (hc : p + n ≤ s.size) :
    Calls Try.prog 37 #[.pointer (some ⟨b, 0, none⟩), .int .i64 n] w fun x w' => x = .returned (.int .u64 (le (part s p n))) ∧ IsReader w' b s (p + n) 0 ∧ Only b w w' := by
  have hx := number_any h n
  rw [numF_ok n hn hc] at hx
  exact hx













end
end Go.Proofs.Ytdkjbnnldbmkmaa
