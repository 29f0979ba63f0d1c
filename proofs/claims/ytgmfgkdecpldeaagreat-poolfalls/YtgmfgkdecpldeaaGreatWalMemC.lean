/-
  A log in memory: what its six cells hold, where its bytes and its starts lie; and what its small methods answer.
-/
import Derived.Test.YtgmfgkdecpldeaaGreatWalFrameC
import Derived.Test.YtgmfgkdecpldeaaGreatBase3C
namespace Go.Proofs.YtgmfgkdecpldeaaGreat
open Go.RowKit
set_option linter.unusedVariables false

/-- A log, as plain data: dp the block of its disk. -/
structure LG where
  dp : Nat
  bytes : List UInt8
  starts : List Nat
  flushed : Nat
  half : Bool
  kept : Nat

def lsnCells (l : List Nat) : List Value := l.map fun (n : Nat) => .int .u64 (n : Int)

def lvals (bv sv : Value) (l : LG) : Array Value := #[.pointer (some ⟨l.dp, 0, none⟩), bv, sv, .int .i64 l.flushed, .bool l.half, .int .i64 l.kept]

structure LogAt (w : World) (p : Nat) (bv sv : Value) (l : LG) : Prop where
  blk : Blk w p (lvals bv sv l) 105
  bytes : ByteRow w bv l.bytes
  starts : w.ownsRow 0 48 1 sv l.starts.length (lsnCells l.starts)

/-- The log's cells, one by one. -/
structure LCells (w : World) (p : Nat) (bv sv : Value) (l : LG) : Prop where
  c0 : w.cell? ⟨p, 0, none⟩ = some (.pointer (some ⟨l.dp, 0, none⟩))
  c1 : w.cell? ⟨p, 1, none⟩ = some bv
  c2 : w.cell? ⟨p, 2, none⟩ = some sv
  c3 : w.cell? ⟨p, 3, none⟩ = some (.int .i64 l.flushed)
  c4 : w.cell? ⟨p, 4, none⟩ = some (.bool l.half)
  c5 : w.cell? ⟨p, 5, none⟩ = some (.int .i64 l.kept)
  fr : ∀ i, w.frozen? ⟨p, i, none⟩ = false

theorem LogAt.cells {w : World} {p : Nat} {bv sv : Value} {l : LG} (h : LogAt w p bv sv l) : LCells w p bv sv l :=
  ⟨h.blk.cell 0, h.blk.cell 1, h.blk.cell 2, h.blk.cell 3, h.blk.cell 4, h.blk.cell 5, h.blk.frozen⟩

/-- The log's blocks. -/
def lhas (p : Nat) (bv sv : Value) (k : Nat) : Prop := k = p ∨ bv.ownBlock = some k ∨ sv.ownBlock = some k

theorem LogAt.same {w w' : World} {p : Nat} {bv sv : Value} {l : LG} (h : LogAt w p bv sv l) (e : ∀ k, lhas p bv sv k → w'.heap[k]? = w.heap[k]?) : LogAt w' p bv sv l :=
  ⟨h.blk.same (e p (.inl rfl)), h.bytes.same fun g k => e g (.inr (.inl k)), owns_same h.starts fun g k => e g (.inr (.inr k))⟩

theorem owns_lt {w : World} {e : TypeId} {z n : Nat} {v : Value} {xs : List Value} (h : w.ownsRow 0 e z v n xs) {g : Nat} (k : v.ownBlock = some g) : g < w.heap.size := by
  obtain ⟨cur, hb⟩ := owns_block h k
  exact hb.lt

theorem LogAt.lt {w : World} {p : Nat} {bv sv : Value} {l : LG} (h : LogAt w p bv sv l) {k : Nat} (hk : lhas p bv sv k) : k < w.heap.size := by
  rcases hk with rfl | hk | hk
  · exact h.blk.lt
  · exact h.bytes.lt hk
  · exact owns_lt h.starts hk

/-- Its three blocks are not one: they are of three makes. -/
theorem LogAt.apart {w : World} {p : Nat} {bv sv : Value} {l : LG} (h : LogAt w p bv sv l) :
    (∀ g, bv.ownBlock = some g → g ≠ p ∧ sv.ownBlock ≠ some g) ∧ (∀ g, sv.ownBlock = some g → g ≠ p) := by
  have hb := h.blk
  unfold Blk at hb
  refine ⟨fun g k => ⟨?_, fun k' => ?_⟩, fun g k => ?_⟩
  · rintro rfl
    obtain ⟨cur, fz, e⟩ := h.bytes.block k
    rw [e] at hb
    simp only [Option.some.injEq, Obj.cells.injEq] at hb
    exact absurd hb.2.1 (by decide)
  · obtain ⟨cur, fz, e⟩ := h.bytes.block k
    obtain ⟨cur', e'⟩ := owns_block h.starts k'
    unfold Blk at e'; rw [e] at e'
    simp only [Option.some.injEq, Obj.cells.injEq] at e'
    exact absurd e'.2.1 (by decide)
  · rintro rfl
    obtain ⟨cur, e⟩ := owns_block h.starts k
    unfold Blk at e; rw [e] at hb
    simp only [Option.some.injEq, Obj.cells.injEq] at hb
    exact absurd hb.2.1 (by decide)

/-- A log in block p, whose blocks are among S. -/
def IsLog (w : World) (p : Nat) (S : Nat → Prop) (l : LG) : Prop := ∃ bv sv, LogAt w p bv sv l ∧ (∀ k, lhas p bv sv k → S k) ∧ ∀ k, S k → k < w.heap.size

theorem IsLog.same {w w' : World} {p : Nat} {S : Nat → Prop} {l : LG} (h : IsLog w p S l) (e : ∀ k, S k → w'.heap[k]? = w.heap[k]?) (hs : w.heap.size ≤ w'.heap.size) : IsLog w' p S l := by
  obtain ⟨bv, sv, hd, h1, h2⟩ := h
  exact ⟨bv, sv, hd.same fun k hk => e k (h1 k hk), h1, fun k hk => Nat.lt_of_lt_of_le (h2 k hk) hs⟩

theorem IsLog.lt {w : World} {p : Nat} {S : Nat → Prop} {l : LG} (h : IsLog w p S l) {k : Nat} (hk : S k) : k < w.heap.size := by
  obtain ⟨_, _, _, _, h2⟩ := h
  exact h2 k hk

theorem IsLog.below {w w' : World} {p : Nat} {S : Nat → Prop} {l : LG} (h : IsLog w p S l) (k : Below w.heap.size w w') : IsLog w' p S l :=
  h.same (fun i hi => k.block i (h.lt hi)) k.size

/-- A log beside what other blocks' owner does. -/
theorem IsLog.beside {w w' : World} {p : Nat} {S D D' : Nat → Prop} {l : LG} (h : IsLog w p S l) (hm : Moves D D' w w') (ha : ∀ k, S k → ¬ D k) : IsLog w' p S l ∧ ∀ k, S k → ¬ D' k :=
  ⟨h.same (fun k hk => hm.1.block k (h.lt hk) (ha k hk)) hm.1.size, fun k hk => (hm.off (h.lt hk) (ha k hk)).2⟩

theorem IsDisk.lt {w : World} {p : Nat} {S : Nat → Prop} {d : DG} (h : IsDisk w p S d) {k : Nat} (hk : S k) : k < w.heap.size := by
  obtain ⟨_, _, _, h2⟩ := h
  exact h2 k hk

theorem IsDisk.beside {w w' : World} {p : Nat} {S D D' : Nat → Prop} {d : DG} (h : IsDisk w p S d) (hm : Moves D D' w w') (ha : ∀ k, S k → ¬ D k) : IsDisk w' p S d ∧ ∀ k, S k → ¬ D' k :=
  ⟨h.same (fun k hk => hm.1.block k (h.lt hk) (ha k hk)) hm.1.size, fun k hk => (hm.off (h.lt hk) (ha k hk)).2⟩

/-- A method's step of a log, seen from outside. -/
theorem lmoved {w w' : World} {p : Nat} {bv sv bv' sv' : Value} {l l' : LG} {S S0 : Nat → Prop} (h : LogAt w p bv sv l) (hS : ∀ k, lhas p bv sv k → S k) (h' : LogAt w' p bv' sv' l') (hr : ∀ k, lhas p bv' sv' k → lhas p bv sv k ∨ w.heap.size ≤ k) (hk : Kept S0 w w') (h0 : ∀ k, S0 k → lhas p bv sv k) :
    ∃ S', IsLog w' p S' l' ∧ Moves S S' w w' := by
  refine ⟨lhas p bv' sv', ⟨bv', sv', h', fun _ x => x, fun k hk => h'.lt hk⟩, hk.mono fun k x => hS k (h0 k x), fun k x => ?_⟩
  rcases hr k x with y | y
  · exact .inl (hS k y)
  · exact .inr y

theorem owns_slice {w : World} {e : TypeId} {z n : Nat} {v : Value} {xs : List Value} (h : w.ownsRow 0 e z v n xs) : ∃ a c, v = .slice a n c := by
  rcases h.2 with ⟨e1, e2⟩ | ⟨g, cap, cur, e1, _⟩
  · exact ⟨none, 0, by rw [e1, e2]⟩
  · exact ⟨_, _, e1⟩

section
variable {w : World} {p : Nat} {S : Nat → Prop} {l : LG}

theorem room_out (h : IsLog w p S l) (hl : l.bytes.length ≤ 4194304) :
    Calls Tryz.prog 45 #[.pointer (some ⟨p, 0, none⟩)] w fun e w' => e = .returned (.int .i64 ((4194304 : Int) - (l.bytes.length : Int))) ∧ w' = w := by
  obtain ⟨bv, sv, hL, _⟩ := h
  have c1 := hL.cells.c1
  obtain ⟨a, c, rfl⟩ := hL.bytes.slice
  clear hL
  go_enter Tryz.func45, Tryz.ntmps45
  go_wp2
  go_ret
  exact ⟨rfl, rfl⟩



theorem end_out (h : IsLog w p S l) (hl : l.bytes.length ≤ 4194304) :
    Calls Tryz.prog 73 #[.pointer (some ⟨p, 0, none⟩)] w fun e w' => e = .returned (.int .u64 ((l.bytes.length + 1 : Nat) : Int)) ∧ w' = w := by
  obtain ⟨bv, sv, hL, _⟩ := h
  have c1 := hL.cells.c1
  obtain ⟨a, c, rfl⟩ := hL.bytes.slice
  clear hL
  go_enter Tryz.func73, Tryz.ntmps73
  go_wp2_with fail
  refine (lsn_any l.bytes.length _ (by omega)).mono ?_
  rintro e w1 ⟨rfl, rfl⟩
  go_wp2
  go_ret
  exact ⟨rfl, rfl⟩

theorem flushed_out (h : IsLog w p S l) (hl : l.flushed ≤ 4194304) :
    Calls Tryz.prog 24 #[.pointer (some ⟨p, 0, none⟩)] w fun e w' => e = .returned (.int .u64 ((l.flushed + 1 : Nat) : Int)) ∧ w' = w := by
  obtain ⟨bv, sv, hL, _⟩ := h
  have c3 := hL.cells.c3
  clear hL
  go_enter Tryz.func24, Tryz.ntmps24
  go_wp2_with fail
  refine (lsn_any l.flushed _ (by omega)).mono ?_
  rintro e w1 ⟨rfl, rfl⟩
  go_wp2
  go_ret
  exact ⟨rfl, rfl⟩



end

end Go.Proofs.YtgmfgkdecpldeaaGreat
