/-
  What the walk of girderlaw02.DiskSubsets leans on.
-/
import Derived.Test.YtlkbdjeejkghgaaDiskAwake

namespace Go.Proofs.Ytlkbdjeejkghgaa
open Go.RowKit
set_option linter.unusedVariables false

/-- A row of N texts that may be written. -/
def RowS (w : World) (b N : Nat) (f : Nat → ByteArray) : Prop := ∀ j, j < N → w.cell? ⟨b, j, none⟩ = some (.string (f j)) ∧ w.frozen? ⟨b, j, none⟩ = false

theorem RowS.congr {w : World} {b N : Nat} {f g : Nat → ByteArray} (h : RowS w b N f) (e : ∀ j, j < N → f j = g j) : RowS w b N g :=
  fun j hj => by rw [← e j hj]; exact h j hj

theorem RowS.set {w : World} {b N : Nat} {f : Nat → ByteArray} (h : RowS w b N f) {k : Nat} (hk : k < N) (v : ByteArray) : RowS (w.setCell ⟨b, k, none⟩ (.string v)) b N (fun j => if j = k then v else f j) := by
  intro j hj
  refine ⟨?_, by rw [World.frozen?_setCell]; exact (h j hj).2⟩
  by_cases e : j = k
  · subst e; simp only [if_pos]; exact World.cell?_setCell_same _ _ _ (h j hj).1
  · simp only [if_neg e]; rw [World.cell?_setCell_other _ _ _ _ (by intro q; exact e (by simpa using q.symm))]; exact (h j hj).1

theorem RowS.same {w w' : World} {b N : Nat} {f : Nat → ByteArray} (h : RowS w b N f) (e : w'.heap[b]? = w.heap[b]?) : RowS w' b N f :=
  fun j hj => ⟨(World.cell?_of_block (w := w) (a := ⟨b, j, none⟩) e).trans (h j hj).1, (World.frozen?_of_block (w := w) (a := ⟨b, j, none⟩) e).trans (h j hj).2⟩

theorem failTo_app {f : FG} {l : List LW} {x : LW} {u : (Nat → ByteArray) × Nat} : ∀ {n : Nat}, n ≤ l.length → failTo f (l ++ [x]) u n = failTo f l u n
  | 0, _ => rfl
  | n + 1, h => by
    have e : (l ++ [x])[n]? = l[n]? := List.getElem?_append_left (by omega)
    simp only [failTo, e]
    rw [failTo_app (n := n) (by omega)]

theorem failTo_snoc {f : FG} {l : List LW} {x : LW} {u : (Nat → ByteArray) × Nat} : failTo f (l ++ [x]) u (l ++ [x]).length = failStep f l.length x (failTo f l u l.length) := by
  have e : (l ++ [x]).length = l.length + 1 := by simp
  rw [e, failTo_succ (x := x) (by simp), failTo_app (Nat.le_refl _)]

/-- What stands behind the loose writes of a disk when it falls so. -/
def fallen (f : FG) (d : DG) : Nat → ByteArray := (failTo f d.loose (d.sure, d.sm) d.loose.length).1

theorem fallen_wr (f : FG) (d : DG) (q : Nat) (hq : q ≠ 0) (s : ByteArray) : fallen f (wrD d q s) = if (d.loose.length : Int) + 1 = f.torn then (fun j => if j = q then mix (tornN f.bytes) s (fallen f d q) else fallen f d j)
    else if bitB f.keep d.loose.length then (fun j => if j = q then s else fallen f d j) else fallen f d := by
  unfold fallen wrD
  simp only
  rw [failTo_snoc]
  unfold failStep
  split
  · unfold keepPartF; simp only [if_neg hq]
  · split
    · unfold keepF; simp only [if_neg hq]
    · rfl

/-- All that the walk knows of the disk and of what is wanted. -/
structure Sub (w wr : World) (p WB : Nat) (S : Nat → Prop) (d : DG) (f : FG) (k : Nat) : Prop where
  disk : IsDisk wr p S d
  old : ∀ i, S i → w.heap.size ≤ i
  off : ¬ S WB
  row : RowS wr WB 9 (fallen f d)
  lt : WB < wr.heap.size
  new : w.heap.size ≤ WB
  bel : Below w.heap.size w wr
  calm : Calm d k
  long : d.loose.length = k
  room : d.room = 8

theorem Sub.below {w wr w' : World} {p WB : Nat} {S : Nat → Prop} {d : DG} {f : FG} {k : Nat} (h : Sub w wr p WB S d f k) (b : Below wr.heap.size wr w') : Sub w w' p WB S d f k :=
  ⟨h.disk.below b, h.old, h.off, h.row.same (b.block _ h.lt), Nat.lt_of_lt_of_le h.lt b.size, h.new, h.bel.trans (b.mono h.bel.size), h.calm, h.long, h.room⟩

theorem below_moves {w wr w' : World} {S S' : Nat → Prop} (h : Below w.heap.size w wr) (ho : ∀ i, S i → w.heap.size ≤ i) (m : Moves S S' wr w') : Below w.heap.size w w' ∧ ∀ i, S' i → w.heap.size ≤ i := by
  refine ⟨⟨m.1.os.trans h.os, m.1.tape.trans h.tape, m.1.output.trans h.output, Nat.le_trans h.size m.1.size, fun i hi => (m.1.block i (Nat.lt_of_lt_of_le hi h.size) fun x => by have := ho i x; omega).trans (h.block i hi)⟩, fun i hi => ?_⟩
  rcases m.2 i hi with x | x
  · exact ho i x
  · exact Nat.le_trans h.size x

/-- A write: the disk is written, the wanted row is not yet. -/
structure SubW (w wr : World) (p WB : Nat) (S : Nat → Prop) (d : DG) (g : Nat → ByteArray) (k : Nat) : Prop where
  disk : IsDisk wr p S d
  old : ∀ i, S i → w.heap.size ≤ i
  off : ¬ S WB
  row : RowS wr WB 9 g
  lt : WB < wr.heap.size
  new : w.heap.size ≤ WB
  bel : Below w.heap.size w wr
  calm : Calm d k
  long : d.loose.length = k
  room : d.room = 8

theorem SubW.below {w wr w' : World} {p WB : Nat} {S : Nat → Prop} {d : DG} {g : Nat → ByteArray} {k : Nat} (h : SubW w wr p WB S d g k) (b : Below wr.heap.size wr w') : SubW w w' p WB S d g k :=
  ⟨h.disk.below b, h.old, h.off, h.row.same (b.block _ h.lt), Nat.lt_of_lt_of_le h.lt b.size, h.new, h.bel.trans (b.mono h.bel.size), h.calm, h.long, h.room⟩

theorem Sub.moved {w wr w' : World} {p WB : Nat} {S S' : Nat → Prop} {d d' : DG} {f : FG} {k k' : Nat} (h : Sub w wr p WB S d f k) (hd : IsDisk w' p S' d') (m : Moves S S' wr w') (hc : Calm d' k') (hl : d'.loose.length = k') (hr : d'.room = 8) : SubW w w' p WB S' d' (fallen f d) k' :=
  ⟨hd, (below_moves h.bel h.old m).2, (m.off h.lt h.off).2, h.row.same (m.off h.lt h.off).1, Nat.lt_of_lt_of_le h.lt m.1.size, h.new, (below_moves h.bel h.old m).1, hc, hl, hr⟩

theorem SubW.set {w wr : World} {p WB : Nat} {S : Nat → Prop} {d : DG} {g g' : Nat → ByteArray} {k : Nat} (h : SubW w wr p WB S d g k) {q : Nat} (hq : q < 9) (s : ByteArray) (he : ∀ j, j < 9 → g' j = if j = q then s else g j) : SubW w (wr.setCell ⟨WB, q, none⟩ (.string s)) p WB S d g' k := by
  refine ⟨h.disk.same (fun i hi => heap_set _ _ _ _ (fun e => h.off (e ▸ hi))) (by simp), h.old, h.off, (h.row.set hq s).congr (fun j hj => (he j hj).symm), by simpa using h.lt, h.new, ?_, h.calm, h.long, h.room⟩
  exact h.bel.setCell (p := ⟨WB, q, none⟩) h.new _

theorem SubW.toSub {w wr : World} {p WB : Nat} {S : Nat → Prop} {d : DG} {f : FG} {g : Nat → ByteArray} {k : Nat} (h : SubW w wr p WB S d g k) (e : ∀ j, j < 9 → g j = fallen f d j) : Sub w wr p WB S d f k :=
  ⟨h.disk, h.old, h.off, h.row.congr e, h.lt, h.new, h.bel, h.calm, h.long, h.room⟩

theorem fallen_size {f : FG} {d : DG} {k : Nat} (h : Calm d k) (q : Nat) : (fallen f d q).size = 512 := failTo_size h.ok.loose h.ok.sure _ q

/-- Bytes of an argument. -/
def IsBytes (w : World) (a : Option Addr) (len cap : Nat) (A : Nat → UInt8) : Prop :=
  len ≤ cap ∧ cap ≤ 9223372036854775807 ∧ (len = 0 ∨ ∃ b o, a = some ⟨b, o, none⟩ ∧ b < w.heap.size ∧ ∀ i, i < len → w.cell? ⟨b, o + i, none⟩ = some (.int .u8 (A i).toNat))

theorem page_k {k : Nat} (hk : k < 255) (w : World) : Calls Try.prog 8 #[.int .u8 ((k : Int) + 1)] w fun e w' => e = .returned (.string (pageS (UInt8.ofNat (k + 1)))) ∧ Below w.heap.size w w' := by
  have h := page_any (UInt8.ofNat (k + 1)) w
  have e : ((UInt8.ofNat (k + 1)).toNat : Int) = (k : Int) + 1 := by rw [UInt8.toNat_ofNat']; omega
  rw [e] at h
  exact h

theorem row9 (w : World) (t : TypeId) : RowS (w.alloc (.cells #[.string ⟨#[]⟩, .string ⟨#[]⟩, .string ⟨#[]⟩, .string ⟨#[]⟩, .string ⟨#[]⟩, .string ⟨#[]⟩, .string ⟨#[]⟩, .string ⟨#[]⟩, .string ⟨#[]⟩] t)) w.heap.size 9 (fun _ => ⟨#[]⟩) := by
  intro j hj
  have hb := Blk.made w #[.string ⟨#[]⟩, .string ⟨#[]⟩, .string ⟨#[]⟩, .string ⟨#[]⟩, .string ⟨#[]⟩, .string ⟨#[]⟩, .string ⟨#[]⟩, .string ⟨#[]⟩, .string ⟨#[]⟩] t
  refine ⟨?_, hb.frozen j⟩
  rw [hb.cell j]
  have : j = 0 ∨ j = 1 ∨ j = 2 ∨ j = 3 ∨ j = 4 ∨ j = 5 ∨ j = 6 ∨ j = 7 ∨ j = 8 := by omega
  rcases this with rfl | rfl | rfl | rfl | rfl | rfl | rfl | rfl | rfl <;> rfl

theorem sub_start {w w2 : World} {p : Nat} {S1 : Nat → Prop} {o : Obj} (h : IsDisk w2 p S1 (newD 8) ∧ Below w.heap.size w w2 ∧ ∀ i, S1 i → w.heap.size ≤ i) {g : Nat → ByteArray} (hr : RowS (w2.alloc o) w2.heap.size 9 g) :
    SubW w (w2.alloc o) p w2.heap.size S1 (newD 8) g 0 := by
  obtain ⟨hd, hb, hS⟩ := h
  have hB : Below w2.heap.size w2 (w2.alloc o) := (Below.refl _ _).alloc (Nat.le_refl _) _
  refine ⟨hd.below hB, hS, ?_, hr, by simp, hb.size, hb.trans (hB.mono hb.size), Calm.new, rfl, rfl⟩
  intro x
  obtain ⟨m, _, _, h2⟩ := hd
  have := h2 _ x
  omega

theorem sub_below {w wr w' : World} {p WB : Nat} {S : Nat → Prop} {d : DG} {f : FG} {k : Nat} (h : Hid (Sub w wr p WB S d f k)) (b : Below wr.heap.size wr w') : Hid (Sub w w' p WB S d f k) := h.out.below b
theorem subw_below {w wr w' : World} {p WB : Nat} {S : Nat → Prop} {d : DG} {g : Nat → ByteArray} {k : Nat} (h : Hid (SubW w wr p WB S d g k)) (b : Below wr.heap.size wr w') : Hid (SubW w w' p WB S d g k) := h.out.below b

theorem sub_write {w wr w' : World} {p WB : Nat} {S S' : Nat → Prop} {d : DG} {f : FG} {k q : Nat} {s : ByteArray} (h : Hid (Sub w wr p WB S d f k)) (hd : IsDisk w' p S' (wrD d q s)) (hm : Moves S S' wr w') (hk : k < 1000000) (hq : q < 4294967296) (hq0 : q ≠ 0) (hs : s.size = 512) :
    Hid (SubW w w' p WB S' (wrD d q s) (fallen f d) (k + 1)) ∧ Hid (fallen f (wrD d q s) = if (k : Int) + 1 = f.torn then (fun j => if j = q then mix (tornN f.bytes) s (fallen f d q) else fallen f d j)
      else if bitB f.keep k then (fun j => if j = q then s else fallen f d j) else fallen f d) ∧ (fallen f d q).size = 512 := by
  have hl := h.out.long
  refine ⟨h.out.moved hd hm (h.out.calm.wr hk hq hs) ?_ h.out.room, ?_, fallen_size h.out.calm q⟩
  · show (d.loose ++ [_]).length = k + 1
    simp [hl]
  · have := fallen_wr f d q hq0 s
    rw [hl] at this
    exact this

/-- Behind the fall. -/
structure SubU (w wr : World) (p WB : Nat) (S : Nat → Prop) (d : DG) : Prop where
  disk : IsDisk wr p S d
  row : RowS wr WB 9 d.sure
  lt : WB < wr.heap.size
  bel : Below w.heap.size w wr
  calm : Calm d 1000
  room : d.room = 8
  read : ∀ {k : Nat}, readD d k = d.sure k

theorem subu_below {w wr w' : World} {p WB : Nat} {S : Nat → Prop} {d : DG} (h : Hid (SubU w wr p WB S d)) (b : Below wr.heap.size wr w') : Hid (SubU w w' p WB S d) :=
  ⟨h.out.disk.below b, h.out.row.same (b.block _ h.out.lt), Nat.lt_of_lt_of_le h.out.lt b.size, h.out.bel.trans (b.mono h.out.bel.size), h.out.calm, h.out.room, h.out.read⟩

theorem sub_crash {w wr w' : World} {p WB : Nat} {S S' : Nat → Prop} {d : DG} {f : FG} {k : Nat} (h : Hid (Sub w wr p WB S d f k)) (hd : IsDisk w' p S' (failD f d)) (m : Moves S S' wr w') (hk : k ≤ 1000) :
    Hid (IsDisk w' p S' (failD f d) ∧ RowS w' WB 9 (failD f d).sure ∧ WB < w'.heap.size ∧ Below w.heap.size w w' ∧ Calm (upD f d) 1000 ∧ d.room = 8 ∧ (∀ i, S' i → w.heap.size ≤ i) ∧ ¬ S' WB) :=
  ⟨hd, h.out.row.same (m.off h.out.lt h.out.off).1, Nat.lt_of_lt_of_le h.out.lt m.1.size, (below_moves h.out.bel h.out.old m).1, (h.out.calm.up f).mono hk, h.out.room, (below_moves h.out.bel h.out.old m).2, (m.off h.out.lt h.out.off).2⟩

theorem sub_up {w wr w' : World} {p WB : Nat} {S S' : Nat → Prop} {d : DG} {f : FG} (h : Hid (IsDisk wr p S (failD f d) ∧ RowS wr WB 9 (failD f d).sure ∧ WB < wr.heap.size ∧ Below w.heap.size w wr ∧ Calm (upD f d) 1000 ∧ d.room = 8 ∧ (∀ i, S i → w.heap.size ≤ i) ∧ ¬ S WB))
    (hd : IsDisk w' p S' { failD f d with dead := false }) (m : Moves S S' wr w') : Hid (SubU w w' p WB S' (upD f d)) := by
  obtain ⟨_, h2, h3, h4, h5, h6, h7, h8⟩ := h.out
  exact ⟨hd, h2.same (m.off h3 h8).1, Nat.lt_of_lt_of_le h3 m.1.size, (below_moves h4 h7 m).1, h5, h6, rfl⟩

end Go.Proofs.Ytlkbdjeejkghgaa
