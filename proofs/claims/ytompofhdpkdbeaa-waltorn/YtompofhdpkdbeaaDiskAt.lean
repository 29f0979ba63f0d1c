/-
  The disk as plain data, and where it lies in memory.
-/
import Derived.Test.YtompofhdpkdbeaaDiskMem
namespace Go.Proofs.Ytompofhdpkdbeaa
open Go.RowKit
set_option linter.unusedVariables false

/-- The cells of bytes. -/
def cellsOf (l : List UInt8) : List Value := l.map fun c => .int .u8 (c.toNat : Int)

theorem strCells_eq (s : ByteArray) : Lib.strCells s = cellsOf s.data.toList := by
  unfold Lib.strCells cellsOf
  rfl

/-- A loose write: of the mark, if the page is 0. -/
structure LW where
  page : Nat
  s : ByteArray
  mark : Nat

/-- A fall. -/
structure FG where
  call : Int
  keep : Nat
  torn : Int
  bytes : Int
  log : Int

def wcells (x : LW) : List Value := [.int .u32 x.page, .string x.s, .int .u64 x.mark]
def fcells (f : FG) : List Value := [.int .i64 f.call, .int .u64 f.keep, .int .i64 f.torn, .int .i64 f.bytes, .int .i64 f.log]

/-- A disk, as plain data: nS, nF are bounds of how many pages its two maps hold. -/
structure DG where
  room : Nat
  dead : Bool
  calls : Nat
  plan : List FG
  sure : Nat → ByteArray
  sm : Nat
  loose : List LW
  fresh : Nat → Option ByteArray
  mark : Nat
  log : List UInt8
  sl : Nat
  nS : Nat
  nF : Nat

/-- Where its parts lie. -/
structure Mem where
  planV : Value
  looseV : Value
  logV : Value
  sure : Nat
  fresh : Nat

def dvals (m : Mem) (d : DG) : Array Value :=
  #[.int .i64 d.room, .bool d.dead, .int .i64 d.calls, m.planV, .map (some m.sure), .int .u64 d.sm, m.looseV, .map (some m.fresh), .int .u64 d.mark, m.logV, .int .i64 d.sl]

def IsFalls (w : World) (v : Value) (l : List FG) : Prop :=
  (v = .slice none 0 0 ∧ l = []) ∨ ∃ g o cap cur, v = .slice (some ⟨g, o, none⟩) l.length cap ∧ l.length ≤ cap ∧ cap ≤ maxLen ∧ Blk w g cur 38 ∧
    ∀ k u, (l.flatMap fcells)[k]? = some u → w.cell? ⟨g, o + k, none⟩ = some u

theorem IsFalls.block {w : World} {v : Value} {l : List FG} (h : IsFalls w v l) {g : Nat} (e : v.ownBlock = some g) : ∃ cur, Blk w g cur 38 := by
  rcases h with ⟨rfl, _⟩ | ⟨g', o, cap, cur, rfl, _, _, hb, _⟩
  · cases e
  · cases e; exact ⟨cur, hb⟩

theorem IsFalls.same {w w' : World} {v : Value} {l : List FG} (h : IsFalls w v l) (e : ∀ g, v.ownBlock = some g → w'.heap[g]? = w.heap[g]?) : IsFalls w' v l := by
  rcases h with ⟨rfl, hl⟩ | ⟨g, o, cap, cur, rfl, h1, h2, hb, hc⟩
  · exact .inl ⟨rfl, hl⟩
  · have e1 := e g rfl
    exact .inr ⟨g, o, cap, cur, rfl, h1, h2, hb.same e1, fun k u hk => (World.cell?_of_block (w := w) (a := ⟨g, o + k, none⟩) e1).trans (hc k u hk)⟩

theorem owns_block {w : World} {e : TypeId} {z n : Nat} {v : Value} {xs : List Value} (h : w.ownsRow 0 e z v n xs) {g : Nat} (k : v.ownBlock = some g) : ∃ cur, Blk w g cur e := by
  rcases h.2 with ⟨rfl, _⟩ | ⟨g', cap, cur, rfl, _, hb, _⟩
  · cases k
  · cases k; exact ⟨cur, hb⟩

theorem owns_same {w w' : World} {e : TypeId} {z n : Nat} {v : Value} {xs : List Value} (h : w.ownsRow 0 e z v n xs) (k : ∀ g, v.ownBlock = some g → w'.heap[g]? = w.heap[g]?) : w'.ownsRow 0 e z v n xs := by
  refine ⟨h.1, ?_⟩
  rcases h.2 with ⟨rfl, h1⟩ | ⟨g', cap, cur, rfl, h0, hb, hr⟩
  · exact .inl ⟨rfl, h1⟩
  · exact .inr ⟨g', cap, cur, rfl, h0, (k g' rfl).trans hb, hr⟩

/-- All but its eleven cells. -/
structure Parts (w : World) (m : Mem) (d : DG) : Prop where
  plan : IsFalls w m.planV d.plan
  sure : ∃ f, IsPages w m.sure d.nS f ∧ ∀ q, 1 ≤ q → q < 4294967296 → (f q).getD zerosS = d.sure q
  fresh : IsPages w m.fresh d.nF d.fresh
  ne : m.sure ≠ m.fresh
  loose : w.ownsRow 0 103 3 m.looseV d.loose.length (d.loose.flatMap wcells)
  log : w.ownsRow 0 5 1 m.logV d.log.length (cellsOf d.log)

theorem Parts.to {w : World} {m : Mem} {d d' : DG} (h : Parts w m d) (e1 : d'.plan = d.plan) (e2 : d'.sure = d.sure) (e3 : d'.loose = d.loose) (e4 : d'.fresh = d.fresh) (e5 : d'.log = d.log) (e6 : d'.nS = d.nS) (e7 : d'.nF = d.nF) : Parts w m d' :=
  ⟨by rw [e1]; exact h.plan, by rw [e2, e6]; exact h.sure, by rw [e4, e7]; exact h.fresh, h.ne, by rw [e3]; exact h.loose, by rw [e5]; exact h.log⟩

/-- The parts' blocks. -/
def Mem.rest (m : Mem) (k : Nat) : Prop := k = m.sure ∨ k = m.fresh ∨ m.looseV.ownBlock = some k ∨ m.logV.ownBlock = some k ∨ m.planV.ownBlock = some k

theorem Parts.same {w w' : World} {m : Mem} {d : DG} (h : Parts w m d) (e : ∀ k, m.rest k → w'.heap[k]? = w.heap[k]?) : Parts w' m d := by
  obtain ⟨f, hf, hz⟩ := h.sure
  exact ⟨h.plan.same fun g k => e g (.inr (.inr (.inr (.inr k)))), ⟨f, hf.same (e _ (.inl rfl)), hz⟩, h.fresh.same (e _ (.inr (.inl rfl))), h.ne,
    owns_same h.loose fun g k => e g (.inr (.inr (.inl k))), owns_same h.log fun g k => e g (.inr (.inr (.inr (.inl k))))⟩

structure DiskAt (w : World) (p : Nat) (m : Mem) (d : DG) : Prop where
  blk : Blk w p (dvals m d) 68
  parts : Parts w m d

theorem DiskAt.off {w : World} {p : Nat} {m : Mem} {d : DG} (h : DiskAt w p m d) {k : Nat} (hk : m.rest k) : k ≠ p := by
  rintro rfl
  have hb := h.blk
  unfold Blk at hb
  rcases hk with rfl | rfl | hk | hk | hk
  · obtain ⟨f, hf, _⟩ := h.parts.sure
    obtain ⟨es, c, e⟩ := hf.isMap
    rw [e] at hb; cases hb
  · obtain ⟨es, c, e⟩ := h.parts.fresh.isMap
    rw [e] at hb; cases hb
  · obtain ⟨cur, e⟩ := owns_block h.parts.loose hk
    unfold Blk at e; rw [e] at hb
    simp only [Option.some.injEq, Obj.cells.injEq] at hb
    exact absurd hb.2.1 (by decide)
  · obtain ⟨cur, e⟩ := owns_block h.parts.log hk
    unfold Blk at e; rw [e] at hb
    simp only [Option.some.injEq, Obj.cells.injEq] at hb
    exact absurd hb.2.1 (by decide)
  · obtain ⟨cur, e⟩ := h.parts.plan.block hk
    unfold Blk at e; rw [e] at hb
    simp only [Option.some.injEq, Obj.cells.injEq] at hb
    exact absurd hb.2.1 (by decide)

/-- Two blocks of different makes are not one. -/
theorem Parts.apart {w : World} {m : Mem} {d : DG} (h : Parts w m d) :
    (∀ g, m.looseV.ownBlock = some g → g ≠ m.sure ∧ g ≠ m.fresh ∧ m.logV.ownBlock ≠ some g ∧ m.planV.ownBlock ≠ some g) ∧
    (∀ g, m.logV.ownBlock = some g → g ≠ m.sure ∧ g ≠ m.fresh ∧ m.planV.ownBlock ≠ some g) ∧
    (∀ g, m.planV.ownBlock = some g → g ≠ m.sure ∧ g ≠ m.fresh) := by
  obtain ⟨f, hf, _⟩ := h.sure
  obtain ⟨es1, c1, e1⟩ := hf.isMap
  obtain ⟨es2, c2, e2⟩ := h.fresh.isMap
  have nomap : ∀ {g cur t}, Blk w g cur t → g ≠ m.sure ∧ g ≠ m.fresh := fun {g cur t} hb =>
    ⟨(by rintro rfl; unfold Blk at hb; rw [e1] at hb; cases hb), (by rintro rfl; unfold Blk at hb; rw [e2] at hb; cases hb)⟩
  refine ⟨fun g k => ?_, fun g k => ?_, fun g k => ?_⟩
  · obtain ⟨cur, hb⟩ := owns_block h.loose k
    refine ⟨(nomap hb).1, (nomap hb).2, fun k' => ?_, fun k' => ?_⟩
    · obtain ⟨cur', e⟩ := owns_block h.log k'
      unfold Blk at e hb; rw [e] at hb
      simp only [Option.some.injEq, Obj.cells.injEq] at hb
      exact absurd hb.2.1 (by decide)
    · obtain ⟨cur', e⟩ := h.plan.block k'
      unfold Blk at e hb; rw [e] at hb
      simp only [Option.some.injEq, Obj.cells.injEq] at hb
      exact absurd hb.2.1 (by decide)
  · obtain ⟨cur, hb⟩ := owns_block h.log k
    refine ⟨(nomap hb).1, (nomap hb).2, fun k' => ?_⟩
    obtain ⟨cur', e⟩ := h.plan.block k'
    unfold Blk at e hb; rw [e] at hb
    simp only [Option.some.injEq, Obj.cells.injEq] at hb
    exact absurd hb.2.1 (by decide)
  · obtain ⟨cur, hb⟩ := h.plan.block k
    exact nomap hb

def Mem.has (m : Mem) (p k : Nat) : Prop := k = p ∨ m.rest k

/-- A disk in block p, whose blocks are among S. -/
def IsDisk (w : World) (p : Nat) (S : Nat → Prop) (d : DG) : Prop := ∃ m, DiskAt w p m d ∧ (∀ k, m.has p k → S k) ∧ ∀ k, S k → k < w.heap.size

theorem IsDisk.same {w w' : World} {p : Nat} {S : Nat → Prop} {d : DG} (h : IsDisk w p S d) (e : ∀ k, S k → w'.heap[k]? = w.heap[k]?) (hs : w.heap.size ≤ w'.heap.size) : IsDisk w' p S d := by
  obtain ⟨m, hd, h1, h2⟩ := h
  exact ⟨m, ⟨hd.blk.same (e p (h1 p (.inl rfl))), hd.parts.same fun k hk => e k (h1 k (.inr hk))⟩, h1, fun k hk => Nat.lt_of_lt_of_le (h2 k hk) hs⟩

theorem IsDisk.below {w w' : World} {p : Nat} {S : Nat → Prop} {d : DG} (h : IsDisk w p S d) (k : Below w.heap.size w w') : IsDisk w' p S d :=
  h.same (fun i hi => k.block i (by obtain ⟨m, _, _, h2⟩ := h; exact h2 i hi)) k.size

theorem IsDisk.drewN {w : World} {p : Nat} {S : Nat → Prop} {d : DG} (h : IsDisk w p S d) (n : Nat) : IsDisk (w.drewN n) p S d := h.same (fun _ _ => rfl) (Nat.le_refl _)

/-- The disk's cells, one by one. -/
structure Cells (w : World) (p : Nat) (m : Mem) (d : DG) : Prop where
  c0 : w.cell? ⟨p, 0, none⟩ = some (.int .i64 d.room)
  c1 : w.cell? ⟨p, 1, none⟩ = some (.bool d.dead)
  c2 : w.cell? ⟨p, 2, none⟩ = some (.int .i64 d.calls)
  c3 : w.cell? ⟨p, 3, none⟩ = some m.planV
  c4 : w.cell? ⟨p, 4, none⟩ = some (.map (some m.sure))
  c5 : w.cell? ⟨p, 5, none⟩ = some (.int .u64 d.sm)
  c6 : w.cell? ⟨p, 6, none⟩ = some m.looseV
  c7 : w.cell? ⟨p, 7, none⟩ = some (.map (some m.fresh))
  c8 : w.cell? ⟨p, 8, none⟩ = some (.int .u64 d.mark)
  c9 : w.cell? ⟨p, 9, none⟩ = some m.logV
  c10 : w.cell? ⟨p, 10, none⟩ = some (.int .i64 d.sl)
  fr : ∀ i, w.frozen? ⟨p, i, none⟩ = false

theorem Blk.cells {w : World} {p : Nat} {m : Mem} {d : DG} (h : Blk w p (dvals m d) 68) : Cells w p m d :=
  ⟨h.cell 0, h.cell 1, h.cell 2, h.cell 3, h.cell 4, h.cell 5, h.cell 6, h.cell 7, h.cell 8, h.cell 9, h.cell 10, h.frozen⟩

theorem DiskAt.lt {w : World} {p : Nat} {m : Mem} {d : DG} (h : DiskAt w p m d) : p < w.heap.size := h.blk.lt

/-- A cell of the disk is written; its parts are as they were. -/
theorem DiskAt.set {w : World} {p : Nat} {m : Mem} {d : DG} (h : DiskAt w p m d) (i : Nat) (v : Value) :
    Blk (w.setCell ⟨p, i, none⟩ v) p ((dvals m d).setIfInBounds i v) 68 ∧ Parts (w.setCell ⟨p, i, none⟩ v) m d :=
  ⟨h.blk.set i v, h.parts.same fun k hk => Below.heap_setCell _ _ _ _ (h.off hk)⟩

end Go.Proofs.Ytompofhdpkdbeaa
