/-
  The walk of rec.named.
-/
import Derived.Test.YtgkfdakieebnmaaGreatRecHasJ
import Derived.Deep.CutRange
import Derived.BigRegion
set_option linter.unusedVariables false
set_option linter.unusedSimpArgs false
namespace Go.Proofs.YtgkfdakieebnmaaGreat
open Go.RowKit

theorem hidr {p : Prop} (h : p) : Hid p := h

def namedV (r : RecV) : RecV where
  kind := r.kind
  tx := r.tx
  prev := r.prev
  next := if nextB r then r.next else 0
  page := if changeB r then r.page else 0
  op := if changeB r then r.op else ⟨0, 0, ⟨#[]⟩, ⟨#[]⟩⟩
  undo := if changeB r then r.undo else 0
  index := if keyB r then r.index else 0
  key := if keyB r then r.key else ⟨#[]⟩
  rpage := if keyB r then r.rpage else 0
  rslot := if keyB r then r.rslot else 0
  live := if keyB r then r.live else false
  txs := if listsB r then r.txs else []
  dirty := if listsB r then r.dirty else []

def rowN (r : RecV) (n g : Nat) (o : OpV) (u i : Int) (k : ByteArray) (p : Nat) (s : Int) (l : Bool) (tv dv : Value) : Array Value :=
  #[.int .i64 r.kind, .int .i64 r.tx, .int .u64 r.prev, .int .u64 n, .int .u32 g, .int .i64 o.kind, .int .i64 o.at', .string o.S, .string o.old, .int .i64 u, .int .i64 i, .string k, .int .u32 p, .int .i64 s, .bool l, tv, dv]

structure NamedAt (w wr : World) (r : RecV) (ta da : Option Addr) (tc dc : Nat) (cs : Array Value) : Prop where
  bel : Below w.heap.size w wr
  par : BlkR wr w.heap.size (r.cells ta da tc dc) 64
  res : BlkR wr (w.heap.size + 1) zeroCellsR 64
  out : BlkR wr (w.heap.size + 1 + 1) cs 64

theorem NamedAt.below {w wr wx : World} {r : RecV} {ta da : Option Addr} {tc dc : Nat} {cs : Array Value} (h : NamedAt w wr r ta da tc dc cs) (b : Below wr.heap.size wr wx) : NamedAt w wx r ta da tc dc cs :=
  ⟨below_chain h.bel b, (b.block _ h.par.lt).trans h.par, (b.block _ h.res.lt).trans h.res, (b.block _ h.out.lt).trans h.out⟩

theorem NamedAt.start (w : World) (r : RecV) (ta da : Option Addr) (tc dc : Nat) (cs : Array Value) : NamedAt w (((w.alloc (.cells (r.cells ta da tc dc) 64)).alloc (.cells zeroCellsR 64)).alloc (.cells cs 64)) r ta da tc dc cs := by
  refine ⟨(((Below.refl _ _).alloc (Nat.le_refl _) _).alloc (by simp) _).alloc (by simp; omega) _, ?_, ?_, ?_⟩
  · exact (Below.heap_alloc _ _ _ (by simp; omega)).trans ((Below.heap_alloc _ _ _ (by simp)).trans (heap_alloc_new w _))
  · have e : (w.alloc (.cells (r.cells ta da tc dc) 64)).heap.size = w.heap.size + 1 := by simp
    have := heap_alloc_new (w.alloc (.cells (r.cells ta da tc dc) 64)) (.cells zeroCellsR 64)
    rw [e] at this
    exact (Below.heap_alloc _ _ _ (by simp)).trans this
  · have e : ((w.alloc (.cells (r.cells ta da tc dc) 64)).alloc (.cells zeroCellsR 64)).heap.size = w.heap.size + 1 + 1 := by simp
    have := heap_alloc_new ((w.alloc (.cells (r.cells ta da tc dc) 64)).alloc (.cells zeroCellsR 64)) (.cells cs 64)
    rw [e] at this
    exact this

theorem NamedAt.set {w wr : World} {r : RecV} {ta da : Option Addr} {tc dc : Nat} {cs : Array Value} (h : NamedAt w wr r ta da tc dc cs) (i : Nat) (v : Value) : NamedAt w (wr.setCell ⟨w.heap.size + 1 + 1, i, none⟩ v) r ta da tc dc (cs.setIfInBounds i v) :=
  ⟨h.bel.setCell (p := ⟨w.heap.size + 1 + 1, i, none⟩) (by show w.heap.size ≤ w.heap.size + 1 + 1; omega) _, (Below.heap_setCell _ _ _ _ (by show w.heap.size ≠ w.heap.size + 1 + 1; omega)).trans h.par, (Below.heap_setCell _ _ _ _ (by show w.heap.size + 1 ≠ w.heap.size + 1 + 1; omega)).trans h.res, h.out.set i v⟩

theorem NamedAt.drew {w wr : World} {r : RecV} {ta da : Option Addr} {tc dc : Nat} {cs : Array Value} (h : NamedAt w wr r ta da tc dc cs) : NamedAt w wr.drew r ta da tc dc cs := h.below ((Below.refl _ _).drew)

set_option maxHeartbeats 1600000 in
set_option maxRecDepth 8000 in
theorem rnamed_any (r : RecV) (ta da : Option Addr) (tc dc : Nat) (w : World) :
    Calls Tryz.prog 132 #[.agg (r.cells ta da tc dc)] w fun e w' => e = .returned (.agg ((namedV r).cells (if listsB r then ta else none) (if listsB r then da else none) (if listsB r then tc else 0) (if listsB r then dc else 0))) ∧ Below w.heap.size w w' := by
  obtain ⟨ta', Hta⟩ : ∃ x, Hid ((if listsB r then ta else none) = x) := ⟨_, rfl⟩
  obtain ⟨da', Hda⟩ : ∃ x, Hid ((if listsB r then da else none) = x) := ⟨_, rfl⟩
  obtain ⟨tc', Htc⟩ : ∃ x, Hid ((if listsB r then tc else 0) = x) := ⟨_, rfl⟩
  obtain ⟨dc', Hdc⟩ : ∃ x, Hid ((if listsB r then dc else 0) = x) := ⟨_, rfl⟩
  rw [Hta.out, Hda.out, Htc.out, Hdc.out]
  have HN : Hid (∀ wx, Calls Tryz.prog 60 #[.agg (r.cells ta da tc dc)] wx fun e w' => e = .returned (.bool (nextB r)) ∧ Below wx.heap.size wx w') := fun wx => hasNext_any r ta da tc dc wx
  have HC : Hid (∀ wx, Calls Tryz.prog 61 #[.agg (r.cells ta da tc dc)] wx fun e w' => e = .returned (.bool (changeB r)) ∧ Below wx.heap.size wx w') := fun wx => hasChange_any r ta da tc dc wx
  have HK : Hid (∀ wx, Calls Tryz.prog 63 #[.agg (r.cells ta da tc dc)] wx fun e w' => e = .returned (.bool (keyB r)) ∧ Below wx.heap.size wx w') := fun wx => hasKey_any r ta da tc dc wx
  have HL : Hid (∀ wx, Calls Tryz.prog 65 #[.agg (r.cells ta da tc dc)] wx fun e w' => e = .returned (.bool (listsB r)) ∧ Below wx.heap.size wx w') := fun wx => hasLists_any r ta da tc dc wx
  obtain ⟨W, HW⟩ : ∃ W, Hid (W = (((w.alloc (.cells (r.cells ta da tc dc) 64)).alloc (.cells zeroCellsR 64)).alloc (.cells (rowN r 0 0 ⟨0, 0, ⟨#[]⟩, ⟨#[]⟩⟩ 0 0 ⟨#[]⟩ 0 0 false (.slice none 0 0) (.slice none 0 0)) 64))) := ⟨_, rfl⟩
  have HS0 : Hid (NamedAt w W r ta da tc dc (rowN r 0 0 ⟨0, 0, ⟨#[]⟩, ⟨#[]⟩⟩ 0 0 ⟨#[]⟩ 0 0 false (.slice none 0 0) (.slice none 0 0))) := by show NamedAt _ _ _ _ _ _ _ _; rw [HW.out]; exact NamedAt.start w r ta da tc dc _
  have HPAR : Hid (r.cells ta da tc dc = #[.int .i64 r.kind, .int .i64 r.tx, .int .u64 r.prev, .int .u64 r.next, .int .u32 r.page, .int .i64 r.op.kind, .int .i64 r.op.at', .string r.op.S, .string r.op.old, .int .i64 r.undo, .int .i64 r.index, .string r.key, .int .u32 r.rpage, .int .i64 r.rslot, .bool r.live, .slice ta r.txs.length tc, .slice da r.dirty.length dc]) := rfl
  rw [HPAR.out]
  go_enter Tryz.func132, Tryz.ntmps132
  go_upto_region 2 with fail
  rw [← HPAR.out]
  rw [show ((w.alloc (.cells (r.cells ta da tc dc) 64)).alloc (.cells #[.int .i64 0, .int .i64 0, .int .u64 0, .int .u64 0, .int .u32 0, .int .i64 0, .int .i64 0, .string ⟨#[]⟩, .string ⟨#[]⟩, .int .i64 0, .int .i64 0, .string ⟨#[]⟩, .int .u32 0, .int .i64 0, .bool false, .slice none 0 0, .slice none 0 0] 64)).alloc (.cells #[.int .i64 r.kind, .int .i64 r.tx, .int .u64 r.prev, .int .u64 0, .int .u32 0, .int .i64 0, .int .i64 0, .string ⟨#[]⟩, .string ⟨#[]⟩, .int .i64 0, .int .i64 0, .string ⟨#[]⟩, .int .u32 0, .int .i64 0, .bool false, .slice none 0 0, .slice none 0 0] 64) = W from HW.out.symm]
  clear HW
  -- Next
  refine wp_region_lit ?_
  refine wpList_loadRow rfl _ _ rfl w.heap.size rfl (r.cells ta da tc dc) _ (0, 0) HS0.out.par _ Tryz.underlying64 rfl (by kernel_rfl) ?_
  go_wp2_with fail
  refine (HN.out _).mono ?_
  rintro e w1 ⟨rfl, b1⟩
  have HS1 := hidr (HS0.out.below b1)
  clear HS0 b1
  go_upto_if 12 with fail
  go_cut [] from 11 to 15 (fun wx => Hid (NamedAt w wx r ta da tc dc (rowN r (namedV r).next 0 ⟨0, 0, ⟨#[]⟩, ⟨#[]⟩⟩ 0 0 ⟨#[]⟩ 0 0 false (.slice none 0 0) (.slice none 0 0))))
  case first =>
    cases hn : nextB r with
    | true =>
      have e3 : (namedV r).next = r.next := by simp [namedV, hn]
      have p3 : w1.cell? ⟨w.heap.size, 3, none⟩ = some (.int .u64 r.next) := HS1.out.par.cell 3
      have o3 : w1.cell? ⟨w.heap.size + 1 + 1, 3, none⟩ = some (.int .u64 0) := HS1.out.out.cell 3
      have f3 := HS1.out.out.frozen 3
      have HX : Hid (NamedAt w (w1.setCell ⟨w.heap.size + 1 + 1, 3, none⟩ (.int .u64 r.next)) r ta da tc dc (rowN r (namedV r).next 0 ⟨0, 0, ⟨#[]⟩, ⟨#[]⟩⟩ 0 0 ⟨#[]⟩ 0 0 false (.slice none 0 0) (.slice none 0 0))) := by
        show NamedAt _ _ _ _ _ _ _ _
        rw [e3]
        exact HS1.out.set 3 _
      clear e3
      go_wp2_with fail
      go_meet
      case rel => exact HX
    | false =>
      have HX : Hid (NamedAt w w1 r ta da tc dc (rowN r (namedV r).next 0 ⟨0, 0, ⟨#[]⟩, ⟨#[]⟩⟩ 0 0 ⟨#[]⟩ 0 0 false (.slice none 0 0) (.slice none 0 0))) := by
        have e3 : (namedV r).next = 0 := by simp [namedV, hn]
        show NamedAt _ _ _ _ _ _ _ _
        rw [e3]
        exact HS1.out
      go_wp2_with fail
      go_meet
      case rel => exact HX
  case rest =>
    have HS2 := hcut
    clear hcut HS1
    -- Page, Op, Undo
    go_upto_region 4 with fail
    refine wp_region_lit ?_
    refine wpList_loadRow rfl _ _ rfl w.heap.size rfl (r.cells ta da tc dc) _ (0, 0) HS2.out.par _ Tryz.underlying64 rfl (by kernel_rfl) ?_
    go_wp2_with fail
    refine (HC.out _).mono ?_
    rintro e w2 ⟨rfl, b2⟩
    have HS3 := hidr (HS2.out.below b2)
    clear HS2 b2
    go_upto_if 17 with fail
    go_cut [] from 16 to 26 (fun wx => Hid (NamedAt w wx r ta da tc dc (rowN r (namedV r).next (namedV r).page (namedV r).op (namedV r).undo 0 ⟨#[]⟩ 0 0 false (.slice none 0 0) (.slice none 0 0))))
    case first =>
      cases hc : changeB r with
      | true =>
        have p4 : w2.cell? ⟨w.heap.size, 4, none⟩ = some (.int .u32 r.page) := HS3.out.par.cell 4
        have p5 : w2.cell? ⟨w.heap.size, 5, none⟩ = some (.int .i64 r.op.kind) := HS3.out.par.cell 5
        have p6 : w2.cell? ⟨w.heap.size, 6, none⟩ = some (.int .i64 r.op.at') := HS3.out.par.cell 6
        have p7 : w2.cell? ⟨w.heap.size, 7, none⟩ = some (.string r.op.S) := HS3.out.par.cell 7
        have p8 : w2.cell? ⟨w.heap.size, 8, none⟩ = some (.string r.op.old) := HS3.out.par.cell 8
        have p9 : w2.cell? ⟨w.heap.size, 9, none⟩ = some (.int .i64 r.undo) := HS3.out.par.cell 9
        have o4 : w2.cell? ⟨w.heap.size + 1 + 1, 4, none⟩ = some (.int .u32 0) := HS3.out.out.cell 4
        have o5 : w2.cell? ⟨w.heap.size + 1 + 1, 5, none⟩ = some (.int .i64 0) := HS3.out.out.cell 5
        have o6 : w2.cell? ⟨w.heap.size + 1 + 1, 6, none⟩ = some (.int .i64 0) := HS3.out.out.cell 6
        have o7 : w2.cell? ⟨w.heap.size + 1 + 1, 7, none⟩ = some (.string ⟨#[]⟩) := HS3.out.out.cell 7
        have o8 : w2.cell? ⟨w.heap.size + 1 + 1, 8, none⟩ = some (.string ⟨#[]⟩) := HS3.out.out.cell 8
        have o9 : w2.cell? ⟨w.heap.size + 1 + 1, 9, none⟩ = some (.int .i64 0) := HS3.out.out.cell 9
        have f4 := HS3.out.out.frozen 4
        have f5 := HS3.out.out.frozen 5
        have f6 := HS3.out.out.frozen 6
        have f7 := HS3.out.out.frozen 7
        have f8 := HS3.out.out.frozen 8
        have f9 := HS3.out.out.frozen 9
        have HX : Hid (NamedAt w ((((((w2.setCell ⟨w.heap.size + 1 + 1, 4, none⟩ (.int .u32 r.page)).setCell ⟨w.heap.size + 1 + 1, 5, none⟩ (.int .i64 r.op.kind)).setCell ⟨w.heap.size + 1 + 1, 6, none⟩ (.int .i64 r.op.at')).setCell ⟨w.heap.size + 1 + 1, 7, none⟩ (.string r.op.S)).setCell ⟨w.heap.size + 1 + 1, 8, none⟩ (.string r.op.old)).setCell ⟨w.heap.size + 1 + 1, 9, none⟩ (.int .i64 r.undo)).drew r ta da tc dc (rowN r (namedV r).next (namedV r).page (namedV r).op (namedV r).undo 0 ⟨#[]⟩ 0 0 false (.slice none 0 0) (.slice none 0 0))) := by
          have e3 : (namedV r).page = r.page ∧ (namedV r).op = r.op ∧ (namedV r).undo = r.undo := by simp [namedV, hc]
          show NamedAt _ _ _ _ _ _ _ _
          rw [e3.1, e3.2.1, e3.2.2]
          exact ((((((HS3.out.set 4 _).set 5 _).set 6 _).set 7 _).set 8 _).set 9 _).drew
        go_wp2_with fail
        go_region
        all_goals
          go_wp2_with fail
          go_meet
          case rel => exact HX
      | false =>
        have HX : Hid (NamedAt w w2 r ta da tc dc (rowN r (namedV r).next (namedV r).page (namedV r).op (namedV r).undo 0 ⟨#[]⟩ 0 0 false (.slice none 0 0) (.slice none 0 0))) := by
          have e3 : (namedV r).page = 0 ∧ (namedV r).op = ⟨0, 0, ⟨#[]⟩, ⟨#[]⟩⟩ ∧ (namedV r).undo = 0 := by simp [namedV, hc]
          show NamedAt _ _ _ _ _ _ _ _
          rw [e3.1, e3.2.1, e3.2.2]
          exact HS3.out
        go_wp2_with fail
        go_meet
        case rel => exact HX
    case rest =>
      have HS4 := hcut
      clear hcut
      go_upto_region 6 with fail
      refine wp_region_lit ?_
      refine wpList_loadRow rfl _ _ rfl w.heap.size rfl (r.cells ta da tc dc) _ (0, 0) HS4.out.par _ Tryz.underlying64 rfl (by kernel_rfl) ?_
      go_wp2_with fail
      refine (HK.out _).mono ?_
      rintro e w3 ⟨rfl, bx⟩
      have HS5 := hidr (HS4.out.below bx)
      clear HS4 bx
      go_upto_if 28 with fail
      go_cut [] from 27 to 37 (fun wx => Hid (NamedAt w wx r ta da tc dc (rowN r (namedV r).next (namedV r).page (namedV r).op (namedV r).undo (namedV r).index (namedV r).key (namedV r).rpage (namedV r).rslot (namedV r).live (.slice none 0 0) (.slice none 0 0))))
      case first =>
        cases hk : keyB r with
        | true =>
          have p10 : w3.cell? ⟨w.heap.size, 10, none⟩ = some (.int .i64 r.index) := HS5.out.par.cell 10
          have p11 : w3.cell? ⟨w.heap.size, 11, none⟩ = some (.string r.key) := HS5.out.par.cell 11
          have p12 : w3.cell? ⟨w.heap.size, 12, none⟩ = some (.int .u32 r.rpage) := HS5.out.par.cell 12
          have p13 : w3.cell? ⟨w.heap.size, 13, none⟩ = some (.int .i64 r.rslot) := HS5.out.par.cell 13
          have p14 : w3.cell? ⟨w.heap.size, 14, none⟩ = some (.bool r.live) := HS5.out.par.cell 14
          have o10 : w3.cell? ⟨w.heap.size + 1 + 1, 10, none⟩ = some (.int .i64 0) := HS5.out.out.cell 10
          have o11 : w3.cell? ⟨w.heap.size + 1 + 1, 11, none⟩ = some (.string ⟨#[]⟩) := HS5.out.out.cell 11
          have o12 : w3.cell? ⟨w.heap.size + 1 + 1, 12, none⟩ = some (.int .u32 0) := HS5.out.out.cell 12
          have o13 : w3.cell? ⟨w.heap.size + 1 + 1, 13, none⟩ = some (.int .i64 0) := HS5.out.out.cell 13
          have o14 : w3.cell? ⟨w.heap.size + 1 + 1, 14, none⟩ = some (.bool false) := HS5.out.out.cell 14
          have f10 := HS5.out.out.frozen 10
          have f11 := HS5.out.out.frozen 11
          have f12 := HS5.out.out.frozen 12
          have f13 := HS5.out.out.frozen 13
          have f14 := HS5.out.out.frozen 14
          have HX : Hid (NamedAt w (((((w3.setCell ⟨w.heap.size + 1 + 1, 10, none⟩ (.int .i64 r.index)).setCell ⟨w.heap.size + 1 + 1, 11, none⟩ (.string r.key)).setCell ⟨w.heap.size + 1 + 1, 12, none⟩ (.int .u32 r.rpage)).setCell ⟨w.heap.size + 1 + 1, 13, none⟩ (.int .i64 r.rslot)).setCell ⟨w.heap.size + 1 + 1, 14, none⟩ (.bool r.live)).drew r ta da tc dc (rowN r (namedV r).next (namedV r).page (namedV r).op (namedV r).undo (namedV r).index (namedV r).key (namedV r).rpage (namedV r).rslot (namedV r).live (.slice none 0 0) (.slice none 0 0))) := by
            have e3 : (namedV r).index = r.index ∧ (namedV r).key = r.key ∧ (namedV r).rpage = r.rpage ∧ (namedV r).rslot = r.rslot ∧ (namedV r).live = r.live := by simp [namedV, hk]
            show NamedAt _ _ _ _ _ _ _ _
            rw [e3.1, e3.2.1, e3.2.2.1, e3.2.2.2.1, e3.2.2.2.2]
            exact (((((HS5.out.set 10 _).set 11 _).set 12 _).set 13 _).set 14 _).drew
          go_wp2_with fail
          go_region
          all_goals
            go_wp2_with fail
            go_meet
            case rel => exact HX
        | false =>
          have HX : Hid (NamedAt w w3 r ta da tc dc (rowN r (namedV r).next (namedV r).page (namedV r).op (namedV r).undo (namedV r).index (namedV r).key (namedV r).rpage (namedV r).rslot (namedV r).live (.slice none 0 0) (.slice none 0 0))) := by
            have e3 : (namedV r).index = 0 ∧ (namedV r).key = ⟨#[]⟩ ∧ (namedV r).rpage = 0 ∧ (namedV r).rslot = 0 ∧ (namedV r).live = false := by simp [namedV, hk]
            show NamedAt _ _ _ _ _ _ _ _
            simp only [e3]
            exact HS5.out
          go_wp2_with fail
          go_meet
          case rel => exact HX
      case rest =>
        have HS6 := hcut
        clear hcut
        go_upto_region 8 with fail
        refine wp_region_lit ?_
        refine wpList_loadRow rfl _ _ rfl w.heap.size rfl (r.cells ta da tc dc) _ (0, 0) HS6.out.par _ Tryz.underlying64 rfl (by kernel_rfl) ?_
        go_wp2_with fail
        refine (HL.out _).mono ?_
        rintro e w4 ⟨rfl, bx⟩
        have HS7 := hidr (HS6.out.below bx)
        clear HS6 bx
        go_upto_if 39 with fail
        go_cut [] from 38 to 45 (fun wx => Hid (NamedAt w wx r ta da tc dc (rowN r (namedV r).next (namedV r).page (namedV r).op (namedV r).undo (namedV r).index (namedV r).key (namedV r).rpage (namedV r).rslot (namedV r).live (.slice ta' (namedV r).txs.length tc') (.slice da' (namedV r).dirty.length dc'))))
        case first =>
          cases hl : listsB r with
          | true =>
            have p15 : w4.cell? ⟨w.heap.size, 15, none⟩ = some (.slice ta r.txs.length tc) := HS7.out.par.cell 15
            have p16 : w4.cell? ⟨w.heap.size, 16, none⟩ = some (.slice da r.dirty.length dc) := HS7.out.par.cell 16
            have o15 : w4.cell? ⟨w.heap.size + 1 + 1, 15, none⟩ = some (.slice none 0 0) := HS7.out.out.cell 15
            have o16 : w4.cell? ⟨w.heap.size + 1 + 1, 16, none⟩ = some (.slice none 0 0) := HS7.out.out.cell 16
            have f15 := HS7.out.out.frozen 15
            have f16 := HS7.out.out.frozen 16
            have HX : Hid (NamedAt w ((w4.setCell ⟨w.heap.size + 1 + 1, 15, none⟩ (.slice ta r.txs.length tc)).setCell ⟨w.heap.size + 1 + 1, 16, none⟩ (.slice da r.dirty.length dc)).drew r ta da tc dc (rowN r (namedV r).next (namedV r).page (namedV r).op (namedV r).undo (namedV r).index (namedV r).key (namedV r).rpage (namedV r).rslot (namedV r).live (.slice ta' (namedV r).txs.length tc') (.slice da' (namedV r).dirty.length dc'))) := by
              have e3 : (namedV r).txs = r.txs ∧ (namedV r).dirty = r.dirty := by simp [namedV, hl]
              show NamedAt _ _ _ _ _ _ _ _
              have q1 := Hta.out; have q2 := Hda.out; have q3 := Htc.out; have q4 := Hdc.out
              rw [if_pos hl] at q1 q2 q3 q4
              rw [e3.1, e3.2, ← q1, ← q2, ← q3, ← q4]
              exact ((HS7.out.set 15 _).set 16 _).drew
            go_wp2_with fail
            go_region
            all_goals
              go_wp2_with fail
              go_meet
              case rel => exact HX
          | false =>
            have HX : Hid (NamedAt w w4 r ta da tc dc (rowN r (namedV r).next (namedV r).page (namedV r).op (namedV r).undo (namedV r).index (namedV r).key (namedV r).rpage (namedV r).rslot (namedV r).live (.slice ta' (namedV r).txs.length tc') (.slice da' (namedV r).dirty.length dc'))) := by
              have e3 : (namedV r).txs = [] ∧ (namedV r).dirty = [] := by simp [namedV, hl]
              show NamedAt _ _ _ _ _ _ _ _
              have q1 := Hta.out; have q2 := Hda.out; have q3 := Htc.out; have q4 := Hdc.out
              rw [if_neg (by rw [hl]; simp)] at q1 q2 q3 q4
              rw [e3.1, e3.2, ← q1, ← q2, ← q3, ← q4]
              exact HS7.out
            go_wp2_with fail
            go_meet
            case rel => exact HX
        case rest =>
          have HS8 := hcut
          clear hcut
          obtain ⟨WX, HWX⟩ : ∃ WX, Hid (WX = wc.setRow (w.heap.size + 1) ((namedV r).cells ta' da' tc' dc')) := ⟨_, rfl⟩
          have hb : BlkR WX (w.heap.size + 1) (refCells (namedV r) (.slice ta' (namedV r).txs.length tc') (.slice da' (namedV r).dirty.length dc')) 64 := by rw [HWX.out]; exact setRow_heap wc _ _ _ _ _ HS8.out.res
          have HBEL : Hid (Below w.heap.size w WX) := by show Below _ _ _; rw [HWX.out]; exact below_setRow HS8.out.bel (by omega) _
          have HOUT : Hid (wc.heap[w.heap.size + 1 + 1]? = some (.cells ((namedV r).cells ta' da' tc' dc') 64 (0, 0))) := HS8.out.out
          have HRES : Hid (wc.heap[w.heap.size + 1]? = some (.cells zeroCellsR 64 (0, 0))) := HS8.out.res
          go_upto_region 10 with fail
          refine wp_region_lit ?_
          refine wpList_loadRow rfl _ _ rfl (w.heap.size + 1 + 1) rfl ((namedV r).cells ta' da' tc' dc') _ (0, 0) HOUT.out _ Tryz.underlying64 rfl (by kernel_rfl) ?_
          refine wpList_storeRow rfl _ _ _ rfl rfl (w.heap.size + 1) rfl ((namedV r).cells ta' da' tc' dc') zeroCellsR rfl _ HRES.out (by kernel_rfl) rfl (ref_one (namedV r) _ _ _ _ _ _) ?_
          refine wpList_nil ?_
          rw [← HWX.out]
          obtain ⟨z0, z1, z2, z3, z4, z5, z6, z7, z8, z9, z10, z11, z12, z13, z14, z15, z16⟩ := out_cells hb
          clear hb HOUT HRES HS8
          go_wp2_with fail
          refine bodyPost_ret (v := .agg (refCells (namedV r) (.slice ta' (namedV r).txs.length tc') (.slice da' (namedV r).dirty.length dc'))) (by simp [results, Tryz.results132, go_sem, z0, z1, z2, z3, z4, z5, z6, z7, z8, z9, z10, z11, z12, z13, z14, z15, z16, refCells]) rfl ?_
          exact ⟨rfl, HBEL.out⟩

end Go.Proofs.YtgkfdakieebnmaaGreat
