/-
  A row of bytes that came out of a conversion, or of an append: its cells, an append of a text to it, and a text made of its part.
  A log in memory: what its six cells hold, where its bytes and its starts lie; and what its small methods answer.
  The walk of (*wal.Log).take: the frames from the front on that are whole and right.
  The walks of wal.Open, as long as nothing is torn, and of (*wal.Log).put, Append.
  The walk of girderlaw05.awake.
  A page that fits may be handed in.
-/
import Derived.Test.YtpllidadpcahbaaGreatBase6C
import Derived.Lib.FrozenHead
import Derived.Lib.ConvBytes
import Derived.Test.YtpllidadpcahbaaGreatWalFrameC
import Derived.Deep.AppendLies
import Derived.Deep.RegionLaw
import Derived.OwnWalk
import Derived.Deep.LoopGhost
import Derived.Deep.Draws
import Derived.Test.YtpllidadpcahbaaGreatBase4C
namespace Go.Proofs.YtpllidadpcahbaaGreat
open Go.RowKit
set_option linter.unusedVariables false

/-- The slice v holds the bytes l, in a row of its own (the mark of a conversion's row stands behind its cells). -/
def ByteRow (w : World) (v : Value) (l : List UInt8) : Prop :=
  (v = .slice none 0 0 ∧ l = []) ∨ ∃ g cap cur fz, v = .slice (some ⟨g, 0, none⟩) l.length cap ∧ w.heap[g]? = some (.cells cur 5 fz) ∧ (fz.2 = 0 ∨ cap ≤ fz.1) ∧ l.length ≤ cap ∧ cap ≤ maxLen ∧ cur.size = cap ∧ cur.toList.take l.length = dcellsOf l

theorem ByteRow.block {w : World} {v : Value} {l : List UInt8} (h : ByteRow w v l) {g : Nat} (k : v.ownBlock = some g) : ∃ cur fz, w.heap[g]? = some (.cells cur 5 fz) := by
  rcases h with ⟨rfl, _⟩ | ⟨g', cap, cur, fz, rfl, hb, _⟩
  · cases k
  · cases k; exact ⟨cur, fz, hb⟩

theorem ByteRow.lt {w : World} {v : Value} {l : List UInt8} (h : ByteRow w v l) {g : Nat} (k : v.ownBlock = some g) : g < w.heap.size := by
  obtain ⟨cur, fz, hb⟩ := h.block k
  exact (Array.getElem?_eq_some_iff.1 hb).1

theorem ByteRow.same {w w' : World} {v : Value} {l : List UInt8} (h : ByteRow w v l) (k : ∀ g, v.ownBlock = some g → w'.heap[g]? = w.heap[g]?) : ByteRow w' v l := by
  rcases h with h | ⟨g', cap, cur, fz, rfl, hb, hr⟩
  · exact .inl h
  · exact .inr ⟨g', cap, cur, fz, rfl, (k g' rfl).trans hb, hr⟩

theorem ByteRow.slice {w : World} {v : Value} {l : List UInt8} (h : ByteRow w v l) : ∃ a c, v = .slice a l.length c := by
  rcases h with ⟨rfl, rfl⟩ | ⟨g', cap, cur, fz, rfl, _⟩
  · exact ⟨none, 0, rfl⟩
  · exact ⟨_, _, rfl⟩

/-- '[]byte(s)'. -/
theorem run_row_made (w : World) (s : ByteArray) (hs : s.size ≤ 1000000000) :
    ∃ v w', (convert 9 99 (.string s)).run Tryz.prog w = .ok v w' ∧ ByteRow w' v s.data.toList ∧ Below w.heap.size w w' ∧ (∀ k, v.ownBlock = some k → w.heap.size ≤ k) := by
  have hr := Lib.run_convert_string_bytes (P := Tryz.prog) w 9 99 5 s Tryz.underlying9 Tryz.underlying99 Tryz.underlying5
  have hge := grownCap_ge w s.size 0 5
  have hcm2 : grownCap w s.size 0 5 ≤ maxLen := grownCap_le_maxLen w s.size 0 5 (by unfold maxLen; omega)
  have hz : (Lib.bytesCells w 5 s).size = grownCap w s.size 0 5 := by
    simp [Lib.bytesCells]
    omega
  refine ⟨_, _, hr, .inr ⟨w.heap.size, _, _, _, by simp, Lib.bytesWorld_at_new w _ s, .inr (by rw [hz]; exact Nat.le_refl _), by simpa using hge, hcm2, hz, ?_⟩, ⟨rfl, rfl, rfl, by rw [Lib.bytesWorld_size]; omega, fun k hk => Lib.bytesWorld_at_old w _ s k hk⟩, fun k hk => by simp only [Value.ownBlock, Option.some.injEq] at hk; omega⟩
  simp only [Lib.bytesCells, Array.toList_append, Array.toList_map]
  rw [List.take_append_of_le_length (by simp), List.take_of_length_le (by simp)]
  rfl

end Go.Proofs.YtpllidadpcahbaaGreat

namespace Go.Proofs.YtpllidadpcahbaaGreat
open Go.RowKit
set_option linter.unusedVariables false

/-- A log, as plain data: dp the block of its disk. -/
structure LG where
  dp : Nat
  bytes : List UInt8
  starts : List Nat
  flushed : Nat
  half : Bool
  kept : Nat

def lsnCells (l : List Nat) : List Value := l.map fun (n : Nat) => .int .u64 (n : Int)

def lvals (bv sv : Value) (l : LG) : Array Value := #[.pointer (some ⟨l.dp, 0, none⟩), bv, sv, .int .i64 l.flushed, .bool l.half, .int .i64 l.kept]

structure LogAt (w : World) (p : Nat) (bv sv : Value) (l : LG) : Prop where
  blk : Blk w p (lvals bv sv l) 106
  bytes : ByteRow w bv l.bytes
  starts : w.ownsRow 0 60 1 sv l.starts.length (lsnCells l.starts)

/-- The log's cells, one by one. -/
structure LCells (w : World) (p : Nat) (bv sv : Value) (l : LG) : Prop where
  c0 : w.cell? ⟨p, 0, none⟩ = some (.pointer (some ⟨l.dp, 0, none⟩))
  c1 : w.cell? ⟨p, 1, none⟩ = some bv
  c2 : w.cell? ⟨p, 2, none⟩ = some sv
  c3 : w.cell? ⟨p, 3, none⟩ = some (.int .i64 l.flushed)
  c4 : w.cell? ⟨p, 4, none⟩ = some (.bool l.half)
  c5 : w.cell? ⟨p, 5, none⟩ = some (.int .i64 l.kept)
  fr : ∀ i, w.frozen? ⟨p, i, none⟩ = false

theorem LogAt.cells {w : World} {p : Nat} {bv sv : Value} {l : LG} (h : LogAt w p bv sv l) : LCells w p bv sv l :=
  ⟨h.blk.cell 0, h.blk.cell 1, h.blk.cell 2, h.blk.cell 3, h.blk.cell 4, h.blk.cell 5, h.blk.frozen⟩

/-- The log's blocks. -/
def lhas (p : Nat) (bv sv : Value) (k : Nat) : Prop := k = p ∨ bv.ownBlock = some k ∨ sv.ownBlock = some k

theorem LogAt.same {w w' : World} {p : Nat} {bv sv : Value} {l : LG} (h : LogAt w p bv sv l) (e : ∀ k, lhas p bv sv k → w'.heap[k]? = w.heap[k]?) : LogAt w' p bv sv l :=
  ⟨h.blk.same (e p (.inl rfl)), h.bytes.same fun g k => e g (.inr (.inl k)), owns_same h.starts fun g k => e g (.inr (.inr k))⟩

theorem owns_lt {w : World} {e : TypeId} {z n : Nat} {v : Value} {xs : List Value} (h : w.ownsRow 0 e z v n xs) {g : Nat} (k : v.ownBlock = some g) : g < w.heap.size := by
  obtain ⟨cur, hb⟩ := owns_block h k
  exact hb.lt

theorem LogAt.lt {w : World} {p : Nat} {bv sv : Value} {l : LG} (h : LogAt w p bv sv l) {k : Nat} (hk : lhas p bv sv k) : k < w.heap.size := by
  rcases hk with rfl | hk | hk
  · exact h.blk.lt
  · exact h.bytes.lt hk
  · exact owns_lt h.starts hk

/-- Its three blocks are not one: they are of three makes. -/
theorem LogAt.apart {w : World} {p : Nat} {bv sv : Value} {l : LG} (h : LogAt w p bv sv l) :
    (∀ g, bv.ownBlock = some g → g ≠ p ∧ sv.ownBlock ≠ some g) ∧ (∀ g, sv.ownBlock = some g → g ≠ p) := by
  have hb := h.blk
  unfold Blk at hb
  refine ⟨fun g k => ⟨?_, fun k' => ?_⟩, fun g k => ?_⟩
  · rintro rfl
    obtain ⟨cur, fz, e⟩ := h.bytes.block k
    rw [e] at hb
    simp only [Option.some.injEq, Obj.cells.injEq] at hb
    exact absurd hb.2.1 (by decide)
  · obtain ⟨cur, fz, e⟩ := h.bytes.block k
    obtain ⟨cur', e'⟩ := owns_block h.starts k'
    unfold Blk at e'; rw [e] at e'
    simp only [Option.some.injEq, Obj.cells.injEq] at e'
    exact absurd e'.2.1 (by decide)
  · rintro rfl
    obtain ⟨cur, e⟩ := owns_block h.starts k
    unfold Blk at e; rw [e] at hb
    simp only [Option.some.injEq, Obj.cells.injEq] at hb
    exact absurd hb.2.1 (by decide)

/-- A log in block p, whose blocks are among S. -/
def IsLog (w : World) (p : Nat) (S : Nat → Prop) (l : LG) : Prop := ∃ bv sv, LogAt w p bv sv l ∧ (∀ k, lhas p bv sv k → S k) ∧ ∀ k, S k → k < w.heap.size

theorem IsLog.same {w w' : World} {p : Nat} {S : Nat → Prop} {l : LG} (h : IsLog w p S l) (e : ∀ k, S k → w'.heap[k]? = w.heap[k]?) (hs : w.heap.size ≤ w'.heap.size) : IsLog w' p S l := by
  obtain ⟨bv, sv, hd, h1, h2⟩ := h
  exact ⟨bv, sv, hd.same fun k hk => e k (h1 k hk), h1, fun k hk => Nat.lt_of_lt_of_le (h2 k hk) hs⟩

theorem IsLog.lt {w : World} {p : Nat} {S : Nat → Prop} {l : LG} (h : IsLog w p S l) {k : Nat} (hk : S k) : k < w.heap.size := by
  obtain ⟨_, _, _, _, h2⟩ := h
  exact h2 k hk

theorem IsLog.below {w w' : World} {p : Nat} {S : Nat → Prop} {l : LG} (h : IsLog w p S l) (k : Below w.heap.size w w') : IsLog w' p S l :=
  h.same (fun i hi => k.block i (h.lt hi)) k.size

theorem IsDisk.lt {w : World} {p : Nat} {S : Nat → Prop} {d : DG} (h : IsDisk w p S d) {k : Nat} (hk : S k) : k < w.heap.size := by
  obtain ⟨_, _, _, h2⟩ := h
  exact h2 k hk

theorem owns_slice {w : World} {e : TypeId} {z n : Nat} {v : Value} {xs : List Value} (h : w.ownsRow 0 e z v n xs) : ∃ a c, v = .slice a n c := by
  rcases h.2 with ⟨e1, e2⟩ | ⟨g, cap, cur, e1, _⟩
  · exact ⟨none, 0, by rw [e1, e2]⟩
  · exact ⟨_, _, e1⟩

section
variable {w : World} {p : Nat} {S : Nat → Prop} {l : LG}

end

end Go.Proofs.YtpllidadpcahbaaGreat

namespace Go.Proofs.YtpllidadpcahbaaGreat
open Go.RowKit
set_option linter.unusedVariables false

theorem hid {p : Prop} (h : p) : Hid p := h

/-- The frames from a place on: where they begin, and where they end. -/
def scan (all : ByteArray) : Nat → Nat → List Nat × Nat
  | 0, a => ([], a)
  | n + 1, a => if frameN all a = 0 then ([], a) else ((a + 1) :: (scan all n (a + frameN all a)).1, (scan all n (a + frameN all a)).2)

theorem frameN_le {all : ByteArray} {a : Nat} (h : frameN all a ≠ 0) : 13 ≤ frameN all a ∧ a + frameN all a ≤ all.size := by
  unfold frameN at h ⊢
  split at h
  · rename_i k
    rw [if_pos k]
    obtain ⟨k1, k2, k3, k4, _⟩ := k
    omega
  · exact absurd rfl h

/-- A log that has nothing yet. -/
def log0 (dp : Nat) : LG := ⟨dp, [], [], 0, false, 0⟩

theorem infoL : (Tryz.prog.info? 60).map (fun i => (i.zero, i.size, i.bytes)) = some (some (.int .u64 0), 1, 8) := by kernel_rfl

theorem lsn_push (l : List Nat) (n : Nat) : lsnCells l ++ [.int .u64 (n : Int)] = lsnCells (l ++ [n]) := by simp [lsnCells]

/-- What stands in the midst of take: at a place, the starts so far. -/
structure TakeAt (w wr : World) (p dp : Nat) (all : ByteArray) (a : Nat) (sv : Value) (st : List Nat) : Prop where
  log : LogAt wr p (.slice none 0 0) sv { log0 dp with starts := st }
  kept : Kept (fun k => k = p) w wr
  new : ∀ g, sv.ownBlock = some g → w.heap.size ≤ g
  le : a ≤ all.size
  few : st.length ≤ a
  scn : ∃ n, all.size - a < n ∧ scan all (all.size + 1) 0 = (st ++ (scan all n a).1, (scan all n a).2)

theorem TakeAt.below {w wr wx : World} {p dp : Nat} {all : ByteArray} {a : Nat} {sv : Value} {st : List Nat} (h : TakeAt w wr p dp all a sv st) (b : Below wr.heap.size wr wx) : TakeAt w wx p dp all a sv st :=
  ⟨h.log.same fun k hk => b.block k (h.log.lt hk), h.kept.trans (Kept.of_below b), h.new, h.le, h.few, h.scn⟩

theorem TakeAt.start {w : World} {p dp : Nat} {all : ByteArray} (h : LogAt w p (.slice none 0 0) (.slice none 0 0) (log0 dp)) : TakeAt w w p dp all 0 (.slice none 0 0) [] :=
  ⟨h, Kept.refl _ _, fun g e => (by cases e), Nat.zero_le _, Nat.zero_le _, all.size + 1, by omega, by simp⟩

/-- One frame more. -/
theorem TakeAt.next {w wr wx : World} {p dp : Nat} {all : ByteArray} {a : Nat} {sv sv' : Value} {st : List Nat} (h : TakeAt w wr p dp all a sv st) (hf : frameN all a ≠ 0)
    (hown : wx.ownsRow 0 60 1 sv' (st.length + 1) (lsnCells st ++ [.int .u64 ((a + 1 : Nat) : Int)])) (hg : wr.grownBy wx sv.ownBlock) (hl : ∀ k, sv'.ownBlock = some k → sv.ownBlock = some k ∨ wr.heap.size ≤ k) :
    TakeAt w (wx.setCell ⟨p, 2, none⟩ sv') p dp all (a + frameN all a) sv' (st ++ [a + 1]) := by
  have hp : sv.ownBlock ≠ some p := fun e => h.log.apart.2 p e rfl
  have hlt := h.log.blk.lt
  have hz := h.kept.size
  have hblk : Blk wx p (lvals (.slice none 0 0) sv { log0 dp with starts := st }) 106 := h.log.blk.same (hg.block p hlt fun e => hp e.symm)
  have hvp : ∀ k, sv'.ownBlock = some k → k ≠ p := by
    rintro k hk rfl
    rcases hl k hk with e | e
    · exact hp e
    · omega
  have hfe := frameN_le hf
  refine ⟨⟨hblk.set 2 sv', .inl ⟨rfl, rfl⟩, ?_⟩, ?_, ?_, hfe.2, ?_, ?_⟩
  · rw [lsn_push] at hown
    have e : (st ++ [a + 1]).length = st.length + 1 := by simp
    show (wx.setCell ⟨p, 2, none⟩ sv').ownsRow 0 60 1 sv' (st ++ [a + 1]).length (lsnCells (st ++ [a + 1]))
    rw [e]
    exact owns_same hown fun g k => heap_set _ _ _ _ (hvp g k)
  · have k1 : Kept (fun k => k = p) w wx := by
      refine ⟨hg.os.trans h.kept.os, hg.tape.trans h.kept.tape, hg.output.trans h.kept.output, Nat.le_trans hz hg.size, fun i hi hn => ?_⟩
      rw [hg.block i (by omega) fun e => by have := h.new i e.symm; omega]
      exact h.kept.block i hi hn
    exact k1.trans (Kept.setCell _ _ _ _ _ rfl)
  · intro g hg'
    rcases hl g hg' with e | e
    · exact h.new g e
    · omega
  · have := h.few; simp; omega
  · obtain ⟨n, hn, hs⟩ := h.scn
    cases n with
    | zero => omega
    | succ n =>
      refine ⟨n, by omega, ?_⟩
      rw [hs]
      have e : scan all (n + 1) a = ((a + 1) :: (scan all n (a + frameN all a)).1, (scan all n (a + frameN all a)).2) := by
        show (if _ then _ else _) = _
        rw [if_neg hf]
      rw [e]
      simp

set_option maxHeartbeats 800000 in
set_option maxRecDepth 8000 in
theorem take_any (w : World) (p dp : Nat) (all : ByteArray) (h : LogAt w p (.slice none 0 0) (.slice none 0 0) (log0 dp)) (hs : all.size ≤ 4194304) :
    Calls Tryz.prog 37 #[.pointer (some ⟨p, 0, none⟩), .string all] w fun e w' => e = .returned (.tuple #[]) ∧ ∃ bv sv, LogAt w' p bv sv ⟨dp, all.data.toList.take (scan all (all.size + 1) 0).2, (scan all (all.size + 1) 0).1, (scan all (all.size + 1) 0).2, false, 0⟩ ∧
      Kept (fun k => k = p) w w' ∧ (∀ k, bv.ownBlock = some k ∨ sv.ownBlock = some k → w.heap.size ≤ k) := by
  obtain ⟨i0, hi, hz0, hz1, hz2⟩ := info_parts infoL
  have HT : Hid (TakeAt w w p dp all 0 (.slice none 0 0) []) := TakeAt.start h
  clear h
  go_enter Tryz.func37, Tryz.ntmps37
  go_wp2_with fail
  refine (frameAt_any all 0 w (Nat.zero_le _) (by omega)).mono ?_
  rintro e w1 ⟨rfl, b1⟩
  have HT1 : Hid (TakeAt w w1 p dp all 0 (.slice none 0 0) []) := HT.out.below b1
  clear HT b1
  go_wp2_with fail
  go_loopw [4, 5] (fun x y wr => ∃ (a : Nat) (sv : Value) (st : List Nat), x = .int .i64 a ∧ y = .int .i64 (frameN all a) ∧ Hid (TakeAt w wr p dp all a sv st)) (fun x _ _ => all.size - (intOf x).toNat)
  case atStart => exact ⟨0, _, _, rfl, rfl, HT1⟩
  case round =>
    obtain ⟨a, sv, st, rfl, rfl, HA⟩ := hrel
    clear HT1
    have hal := HA.out.le
    by_cases hf : frameN all a = 0
    · obtain ⟨n, hn, hsc⟩ := HA.out.scn
      have hsc' : scan all (all.size + 1) 0 = (st, a) := by
        rw [hsc]
        cases n with
        | zero => omega
        | succ n =>
          have e : scan all (n + 1) a = ([], a) := by
            show (if _ then _ else _) = _
            rw [if_pos hf]
          rw [e]
          simp
      have HSC := hid hsc'
      have hf0 : (frameN all a : Int) = 0 := by omega
      have hxs : (all.extract 0 a).size = a := by rw [ByteArray.size_extract]; omega
      obtain ⟨bv, w6, hcv, hrow, b6, hnew⟩ := run_row_made wr (all.extract 0 a) (by omega)
      have hT6 := HA.out.below b6
      have hlt : p < wr.heap.size := HA.out.log.blk.lt
      have hl := hT6.log
      have c1 := hl.cells.c1
      have f1 := hl.cells.fr 1
      have f3 := hl.cells.fr 3
      have c3 : (w6.setCell ⟨p, 1, none⟩ bv).cell? ⟨p, 3, none⟩ = some (.int .i64 0) := (hl.blk.set 1 bv).cell 3
      have f3' : (w6.setCell ⟨p, 1, none⟩ bv).frozen? ⟨p, 3, none⟩ = false := (hl.blk.set 1 bv).frozen 3
      have HP : Hid (∃ bv' sv', LogAt ((w6.setCell ⟨p, 1, none⟩ bv).setCell ⟨p, 3, none⟩ (.int .i64 a)) p bv' sv' ⟨dp, all.data.toList.take a, st, a, false, 0⟩ ∧ Kept (fun k => k = p) w ((w6.setCell ⟨p, 1, none⟩ bv).setCell ⟨p, 3, none⟩ (.int .i64 a)) ∧ (∀ k, bv'.ownBlock = some k ∨ sv'.ownBlock = some k → w.heap.size ≤ k)) := by
        have hbp : ∀ k, bv.ownBlock = some k → k ≠ p := fun k hk e => by have := hnew k hk; omega
        have hsp : ∀ k, sv.ownBlock = some k → k ≠ p := fun k hk => hl.apart.2 k hk
        have hxl : (all.extract 0 a).data.toList = all.data.toList.take a := by simp [ByteArray.data_extract, List.extract_eq_take_drop]
        rw [hxl] at hrow
        refine ⟨bv, sv, ⟨(hl.blk.set 1 bv).set 3 (.int .i64 a), hrow.same fun g k => (heap_set _ _ _ _ (hbp g k)).trans (heap_set _ _ _ _ (hbp g k)), owns_same hl.starts fun g k => (heap_set _ _ _ _ (hsp g k)).trans (heap_set _ _ _ _ (hsp g k))⟩, (hT6.kept.trans (Kept.setCell _ _ _ _ _ rfl)).trans (Kept.setCell _ _ _ _ _ rfl), ?_⟩
        rintro k (hk | hk)
        · have := hnew k hk
          have := HA.out.kept.size
          omega
        · exact hT6.new k hk
      obtain ⟨ba, bc, hbv⟩ := hrow.slice
      rw [show (all.extract 0 a).data.toList.length = a from hxs ▸ (by simp)] at hbv
      subst hbv
      clear hT6 hl hsc hsc' HA hrow b6 hnew
      go_wp2
      go_end0
      refine ⟨rfl, ?_⟩
      rw [HSC.out]
      exact HP.out
    · have hfe := frameN_le hf
      have HF : Hid (frameN all a ≠ 0) := hf
      have hpos : (0 : Int) < (frameN all a : Int) := by omega
      have c2 := HA.out.log.cells.c2
      have hown := HA.out.log.starts
      obtain ⟨sa, sc, hsv⟩ := owns_slice hown
      have hfew := HA.out.few
      have hadd : IntKind.i64.wrap ((a : Int) + (frameN all a : Int)) = ((a + frameN all a : Nat) : Int) := by rw [IntKind.wrap_i64]; omega
      clear hf
      generalize hN : frameN all a = N at *
      go_wp2_with fail
      have HOWN : Hid (∀ (o : Obj) (W : World), W.heap = (wr.alloc o).heap → W.ownsRow 0 60 1 (.slice sa st.length sc) st.length (lsnCells st)) := by
        intro o W hW
        rw [← hsv]
        exact owns_same HA.out.log.starts fun g hg => by rw [hW]; exact Below.heap_alloc _ _ g (owns_lt HA.out.log.starts hg)
      have HNEW : Hid (∀ (x : Int) (W : World), W.heap = (wr.alloc (.cells #[.int .u64 x] 60)).heap → ∀ j u, [Value.int .u64 x][j]? = some u → W.cell? ((⟨wr.heap.size, 0, none⟩ : Addr).add j) = some u) := by
        intro x W hW j u hj
        exact World.news_of_block (by rw [hW]; exact heap_alloc_new wr _) j u hj
      have HC2 : Hid (∀ (o : Obj) (W w4 : World), W.heap = (wr.alloc o).heap → W.grownBy w4 (Value.slice sa st.length sc).ownBlock → w4.cell? ⟨p, 2, none⟩ = some (.slice sa st.length sc) ∧ w4.frozen? ⟨p, 2, none⟩ = false) := by
        intro o W w4 hW hg
        have hlt := HA.out.log.blk.lt
        have hp : sv.ownBlock ≠ some p := fun e => HA.out.log.apart.2 p e rfl
        have e : w4.heap[p]? = wr.heap[p]? := (hg.block p (by rw [hW]; simp; omega) (by rw [← hsv]; exact fun e => hp e.symm)).trans (by rw [hW]; exact Below.heap_alloc _ _ p hlt)
        refine ⟨(World.cell?_of_block (w := wr) (a := ⟨p, 2, none⟩) e).trans ?_, (World.frozen?_of_block (w := wr) (a := ⟨p, 2, none⟩) e).trans (HA.out.log.cells.fr 2)⟩
        rw [← hsv]
        exact HA.out.log.cells.c2
      rw [hsv] at c2
      have HO1 := hid (HOWN.out (.cells #[.int .u64 ((a : Int) + 1)] 60) ((wr.alloc (.cells #[.int .u64 ((a : Int) + 1)] 60)).drew) rfl)
      have HN1 := hid (HNEW.out ((a : Int) + 1) ((wr.alloc (.cells #[.int .u64 ((a : Int) + 1)] 60)).drew) rfl)
      have HC1 := hid (fun w4 => HC2.out (.cells #[.int .u64 ((a : Int) + 1)] 60) ((wr.alloc (.cells #[.int .u64 ((a : Int) + 1)] 60)).drew) w4 rfl)
      have H1C : Hid (∀ u ∈ [Value.int .u64 ((a : Int) + 1)], u.oneCell' = true) := by intro u hu; simp at hu; subst hu; rfl
      clear HOWN HNEW HC2
      have c2a : (wr.alloc (.cells #[.int .u64 ((a : Int) + 1)] 60)).cell? ⟨p, 2, none⟩ = some (.slice sa st.length sc) := by
        rw [← hsv]
        exact (World.cell?_of_block (w := wr) (a := ⟨p, 2, none⟩) (Below.heap_alloc _ _ p HA.out.log.blk.lt)).trans HA.out.log.cells.c2
      go_region_law (first | (go_simp; go_at_call 70; refine (lsn_any a _ (by omega)).mono ?_; rintro x w3 ⟨rfl, rfl⟩) | (refine step_append_lies _ (by rfl) _ _ 104 (by rfl) 0 60 i0 _ 1 8 Tryz.underlying104 hi hz0 hz1 hz2 (by rfl) (by decide) (.slice sa st.length sc) st.length (lsnCells st) (by rfl) HO1.out ⟨wr.heap.size, 0, none⟩ 1 1 [.int .u64 ((a : Int) + 1)] (by rfl) (by rfl) HN1.out H1C.out (by decide) (by unfold maxLen; omega) (by omega) (Nat.zero_le _) (wr.heap.size + 1) (by simp) ?_; intro g cap w4 hown4 hgrow4 hloc4 hlt4; have hc4 := HC1.out _ hgrow4; obtain ⟨c2', f2'⟩ := hc4))
      all_goals
        have HN2 : Hid (TakeAt w (w4.setCell ⟨p, 2, none⟩ (.slice (some ⟨g, 0, none⟩) (st.length + 1) cap)) p dp all (a + N) (.slice (some ⟨g, 0, none⟩) (st.length + 1) cap) (st ++ [a + 1])) := by
          have h1 : TakeAt w ((wr.alloc (.cells #[.int .u64 ((a : Int) + 1)] 60)).drew) p dp all a sv st := HA.out.below (((Below.refl _ _).alloc (Nat.le_refl _) _).drew)
          have h2 := h1.next (by rw [hN]; exact HF.out) hown4 (by rw [hsv]; exact hgrow4) (fun k hk => by
            simp only [Value.ownBlock, Option.some.injEq] at hk
            subst hk
            rw [hsv]
            rcases hloc4 with e | e
            · exact .inl e
            · right; simp; omega)
          rw [hN] at h2
          exact h2
        clear hown4 hgrow4 hloc4 hlt4 c2' f2' HO1 HN1 HC1 H1C c2 c2a
        go_wp2_with fail
        refine (frameAt_any all (a + N) _ (by omega) (by omega)).mono ?_
        rintro e w5 ⟨rfl, b5⟩
        have HN3 := hid (HN2.out.below b5)
        clear b5 HN2
        go_wp2_with fail
        exact ⟨⟨a + N, _, _, by simp, rfl, HN3⟩, by simp [intOf]; omega⟩

end Go.Proofs.YtpllidadpcahbaaGreat

namespace Go.Proofs.YtpllidadpcahbaaGreat
open Go.RowKit
set_option linter.unusedVariables false

/-- The log that Open has of a disk. -/
def openL (p : Nat) (d : DG) : LG :=
  ⟨p, d.log.take (scan ⟨d.log.toArray⟩ (d.log.length + 1) 0).2, (scan ⟨d.log.toArray⟩ (d.log.length + 1) 0).1, (scan ⟨d.log.toArray⟩ (d.log.length + 1) 0).2, false, 0⟩

set_option maxHeartbeats 800000 in
set_option maxRecDepth 8000 in
theorem open_out {w : World} {p : Nat} {S : Nat → Prop} {d : DG} (h : IsDisk w p S d) (hd : d.dead = false) (hl : d.log.length ≤ 4194304) (ht : (scan ⟨d.log.toArray⟩ (d.log.length + 1) 0).2 = d.log.length) :
    Calls Tryz.prog 18 #[.pointer (some ⟨p, 0, none⟩)] w fun e w' => ∃ q, e = .returned (.tuple #[.pointer (some ⟨q, 0, none⟩), .int .i64 0, .int .i64 0]) ∧
      (∃ S', IsLog w' q S' (openL p d) ∧ ∀ k, S' k → w.heap.size ≤ k) ∧ Below w.heap.size w w' := by
  have hsz : (ByteArray.mk d.log.toArray).size = d.log.length := bytes_size _
  have HD : Hid (IsDisk w p S d) := h
  have HL : Hid (openL p d = ⟨p, (ByteArray.mk d.log.toArray).data.toList.take (scan ⟨d.log.toArray⟩ ((ByteArray.mk d.log.toArray).size + 1) 0).2, (scan ⟨d.log.toArray⟩ ((ByteArray.mk d.log.toArray).size + 1) 0).1, (scan ⟨d.log.toArray⟩ ((ByteArray.mk d.log.toArray).size + 1) 0).2, false, 0⟩) := by
    show _ = _
    rw [hsz]
    rfl
  have hT : (scan ⟨d.log.toArray⟩ ((ByteArray.mk d.log.toArray).size + 1) 0).2 = (ByteArray.mk d.log.toArray).size := by rw [hsz]; exact ht
  have HR : Hid (Calls Tryz.prog 36 #[.pointer (some ⟨p, 0, none⟩)] w fun x w' => x = .returned (.tuple #[.string ⟨d.log.toArray⟩, .int .i64 0]) ∧ Below w.heap.size w w') := readLog_out h hd
  generalize openL p d = L at *
  generalize ByteArray.mk d.log.toArray = all at *
  clear ht h
  go_enter Tryz.func18, Tryz.ntmps18
  go_wp2_with fail
  refine HR.out.mono ?_
  rintro e w1 ⟨rfl, b1⟩
  go_wp2_with fail
  have hlog : LogAt (w1.alloc (.cells (lvals (.slice none 0 0) (.slice none 0 0) (log0 p)) 106)) w1.heap.size (.slice none 0 0) (.slice none 0 0) (log0 p) :=
    ⟨Blk.made _ _ _, .inl ⟨rfl, rfl⟩, World.ownsRow_nil _ _ _ _⟩
  have hb1 : Below w.heap.size w (w1.alloc (.cells (lvals (.slice none 0 0) (.slice none 0 0) (log0 p)) 106)) := b1.alloc b1.size _
  refine (take_any _ w1.heap.size p all hlog (by omega)).mono ?_
  rintro e w2 ⟨rfl, bv, sv, hL, hK, hnew⟩
  rw [← HL.out] at hL
  have hb2 : Below w.heap.size w w2 := ⟨hK.os.trans hb1.os, hK.tape.trans hb1.tape, hK.output.trans hb1.output, Nat.le_trans hb1.size hK.size, fun k hk => (hK.block k (Nat.lt_of_lt_of_le hk hb1.size) (fun e => by have := b1.size; omega)).trans (hb1.block k hk)⟩
  have HF : Hid ((∃ S', IsLog w2 w1.heap.size S' L ∧ ∀ k, S' k → w.heap.size ≤ k) ∧ Below w.heap.size w w2) := by
    refine ⟨⟨lhas w1.heap.size bv sv, ⟨bv, sv, hL, fun _ x => x, fun k hk => hL.lt hk⟩, ?_⟩, hb2⟩
    have h1 := b1.size
    rintro k (hk | hk)
    · omega
    · have := hnew k hk; simp at this; omega
  have hfl : L.flushed = all.size := by rw [HL.out]; exact hT
  have c3 := hL.cells.c3
  rw [hfl] at c3
  clear hL hK hnew hb2 hb1 hlog b1 HR
  go_wp2
  go_ret3
  exact ⟨w1.heap.size, rfl, HF.out.1, HF.out.2⟩

section
variable {w : World} {p : Nat} {S : Nat → Prop} {l : LG}

end

end Go.Proofs.YtpllidadpcahbaaGreat

namespace Go.Proofs.YtpllidadpcahbaaGreat
open Go.RowKit
set_option linter.unusedVariables false

theorem frameN_end {all : ByteArray} {a : Nat} (h : all.size < a + 4) : frameN all a = 0 := if_neg fun k => by omega

theorem scan_none (n : Nat) : scan ⟨#[]⟩ (n + 1) 0 = ([], 0) := by
  show (if _ then _ else _) = _
  rw [if_pos (frameN_end (by show 0 < 4; omega))]

theorem wnew_out (w : World) (room : Nat) (h1 : 8 ≤ room) (h2 : room ≤ 2048) :
    Calls Tryz.prog 17 #[.int .i64 room] w fun e w' => ∃ p, e = .returned (.tuple #[.pointer (some ⟨p, 0, none⟩), .int .i64 0]) ∧ (∃ S', IsDisk w' p S' (newD room) ∧ ∀ k, S' k → w.heap.size ≤ k) ∧ Below w.heap.size w w' := by
  refine (new_any w room h1 h2).mono ?_
  rintro e w' ⟨p, rfl, ⟨m, hd, hm⟩, hb⟩
  refine ⟨p, rfl, ⟨m.has p, ⟨m, hd, fun _ x => x, ?_⟩, hm⟩, hb⟩
  rintro k (rfl | x)
  · exact hd.lt
  · exact hd.rest_lt x

/-- The log of a new disk. -/
theorem openL_new (p room : Nat) : openL p (newD room) = log0 p := by
  unfold openL
  have e : scan ⟨(newD room).log.toArray⟩ ((newD room).log.length + 1) 0 = ([], 0) := scan_none 0
  rw [e]
  rfl

end Go.Proofs.YtpllidadpcahbaaGreat

namespace Go.Proofs.YtpllidadpcahbaaGreat
open Go.RowKit
set_option linter.unusedVariables false

theorem fits_slot {L : List ByteArray} {s : ByteArray} (h : s ∈ L) : s.size ≤ slotSum L := by
  induction L with
  | nil => cases h
  | cons x L ih =>
    simp only [slotSum]
    rcases List.mem_cons.1 h with rfl | h
    · omega
    · have := ih h; omega

theorem SheetV.Fits.ok {p : SheetV} (h : p.Fits) {w : World} {a : Option Addr} (hm : StrsAt w a p.slots) : p.Ok w a := by
  have h1 := h.kind0
  have h2 := h.kind1
  have h3 := h.head
  have h4 := h.len
  have h5 := h.fits
  exact ⟨h.num, h.lsn, by omega, by omega, by omega, fun s hs => by have := fits_slot hs; omega, hm⟩

end Go.Proofs.YtpllidadpcahbaaGreat
