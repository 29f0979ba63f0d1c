/-
  What girderlaw05.one hands back; where it stands behind its first statement.
-/
import Derived.Test.YthmhigjdjclckaaWalP3C
namespace Go.Proofs.Ythmhigjdjclckaa
open Go.RowKit
set_option linter.unusedVariables false

/-- A slice's texts lie apart from the log and the disk. -/
def TOff (rs : List ByteArray) (ta : Option Addr) (S D : Nat → Prop) : Prop := rs ≠ [] → ∀ x, ta = some x → ¬ S x.block ∧ ¬ D x.block

/-- What one hands back. -/
structure OneOut (W : World) (p : Nat) (S D : Nat → Prop) (j : Nat) (e : Ending) (w' : World) : Prop where
  out : ∃ (q : Nat) (ta : Option Addr) (tc sure kept mark : Nat) (rs : List ByteArray) (S' D' : Nat → Prop) (l : LG) (d : DG), e = .returned (.tuple #[.pointer (some ⟨q, 0, none⟩), .agg #[.slice ta rs.length tc, .int .i64 sure, .int .i64 kept, .int .u64 mark], .bool true]) ∧ WpL w' p q S' D' l d rs sure kept mark (j + 1) ∧ TextsAt w' ta rs ∧ TOff rs ta S' D' ∧ rs.length ≤ tc ∧ Moves (fun k => S k ∨ D k) (fun k => S' k ∨ D' k) W w'

/-- An act. -/
structure AcV where
  kind : Int
  n : Int
  s : ByteArray
  x : Nat
  f1 : Int
  f2 : Nat
  f3 : Int
  f4 : Int
  f5 : Int

def AcV.cells (a : AcV) : Array Value := #[.int .i64 a.kind, .int .i64 a.n, .string a.s, .int .u64 a.x, .int .i64 a.f1, .int .u64 a.f2, .int .i64 a.f3, .int .i64 a.f4, .int .i64 a.f5]
def zero4 : Array Value := #[.slice none 0 0, .int .i64 0, .int .i64 0, .int .u64 0]

/-- The three variables of one, and that all else is as it was but the log's and the disk's blocks. -/
structure OneIn (W X : World) (S D S' D' : Nat → Prop) (m4 : Array Value) (a : AcV) : Prop where
  b0 : Blk X W.heap.size m4 34
  b1 : Blk X (W.heap.size + 1) a.cells 40
  b2 : Blk X (W.heap.size + 1 + 1) zero4 34
  mv : Moves (fun k => S k ∨ D k) (fun k => S' k ∨ D' k) W X
  lo : ∀ k, S' k ∨ D' k → k < W.heap.size ∨ W.heap.size + 1 + 1 < k

section
variable {W X Y : World} {S D S1 D1 S2 D2 : Nat → Prop} {m4 : Array Value} {a : AcV}

theorem OneIn.lt (h : OneIn W X S D S1 D1 m4 a) : W.heap.size + 1 + 1 < X.heap.size := h.b2.lt

theorem OneIn.start (hS : ∀ k, S k ∨ D k → k < W.heap.size) : OneIn W (((W.alloc (.cells m4 34)).alloc (.cells a.cells 40)).alloc (.cells zero4 34)) S D S D m4 a := by
  generalize hA : W.alloc (.cells m4 34) = A
  have a1 : Blk A W.heap.size m4 34 := by rw [← hA]; exact heap_alloc_new W _
  have a2 : A.heap.size = W.heap.size + 1 := by rw [← hA]; simp
  have a3 : Below W.heap.size W A := by rw [← hA]; exact (Below.refl _ _).alloc (Nat.le_refl _) _
  generalize hB : A.alloc (.cells a.cells 40) = B
  have b1 : Blk B (W.heap.size + 1) a.cells 40 := by rw [← hB, ← a2]; exact heap_alloc_new A _
  have b2 : B.heap.size = W.heap.size + 1 + 1 := by rw [← hB]; simp [a2]
  have b3 : Below A.heap.size A B := by rw [← hB]; exact (Below.refl _ _).alloc (Nat.le_refl _) _
  have d1 : Blk (B.alloc (.cells zero4 34)) (W.heap.size + 1 + 1) zero4 34 := by rw [← b2]; exact heap_alloc_new B _
  have d3 : Below B.heap.size B (B.alloc (.cells zero4 34)) := (Below.refl _ _).alloc (Nat.le_refl _) _
  exact ⟨(a1.same (b3.block _ (by omega))).same (d3.block _ (by omega)), b1.same (d3.block _ (by omega)), d1, Moves.of_kept (Kept.of_below (below_chain (below_chain a3 b3) d3)), fun k hk => .inl (hS k hk)⟩

theorem OneIn.below (h : OneIn W X S D S1 D1 m4 a) (b : Below X.heap.size X Y) : OneIn W Y S D S1 D1 m4 a :=
  have := h.lt
  ⟨h.b0.same (b.block _ (by omega)), h.b1.same (b.block _ (by omega)), h.b2.same (b.block _ (by omega)), h.mv.kept (Kept.of_below b), h.lo⟩

theorem OneIn.moves (h : OneIn W X S D S1 D1 m4 a) (m : Moves (fun k => S1 k ∨ D1 k) (fun k => S2 k ∨ D2 k) X Y) : OneIn W Y S D S2 D2 m4 a := by
  have hl := h.lt
  have keep : ∀ k, W.heap.size ≤ k → k ≤ W.heap.size + 1 + 1 → Y.heap[k]? = X.heap[k]? := fun k h1 h2 => m.1.block k (by omega) (fun y => by rcases h.lo k y with z | z <;> omega)
  refine ⟨h.b0.same (keep _ (by omega) (by omega)), h.b1.same (keep _ (by omega) (by omega)), h.b2.same (keep _ (by omega) (by omega)), h.mv.trans m, fun k hk => ?_⟩
  rcases m.2 k hk with y | y
  · exact h.lo k y
  · exact .inr (by omega)

end

theorem Moves.left {S S' D : Nat → Prop} {w w' : World} (h : Moves S S' w w') : Moves (fun k => S k ∨ D k) (fun k => S' k ∨ D k) w w' :=
  ⟨h.1.mono fun _ x => .inl x, fun k x => by
    rcases x with x | x
    · rcases h.2 k x with y | y
      · exact .inl (.inl y)
      · exact .inr y
    · exact .inl (.inr x)⟩

theorem Moves.right {S D D' : Nat → Prop} {w w' : World} (h : Moves D D' w w') : Moves (fun k => S k ∨ D k) (fun k => S k ∨ D' k) w w' :=
  ⟨h.1.mono fun _ x => .inr x, fun k x => by
    rcases x with x | x
    · exact .inl (.inl x)
    · rcases h.2 k x with y | y
      · exact .inl (.inr y)
      · exact .inr y⟩

end Go.Proofs.Ythmhigjdjclckaa
