/-
  redo.changes; page.Apply of any change; redo.repeat.
-/
import Derived.Test.YtgkfdakieebnmaaGreatPageApplyJ
import Derived.Test.YtgkfdakieebnmaaGreatProg
import Derived.Shelf.Slices.Delete
import Derived.Shelf.Slices.Cells
import Derived.Test.YtgkfdakieebnmaaGreatAnRunC
set_option linter.unusedVariables false
set_option linter.unusedSimpArgs false
namespace Go.Proofs.YtgkfdakieebnmaaGreat
open Go.RowKit Go.Sort Go.Shelf Go.Lib

set_option maxHeartbeats 3200000 in
set_option maxRecDepth 20000 in
theorem changes_any (r : RecV) (ta da : Option Addr) (tc dc : Nat) (w : World) : Calls Tryz.prog 50 #[.agg (r.cells ta da tc dc)] w fun e w' => e = .returned (.bool (decide (r.kind = 1 ∨ r.kind = 2))) ∧ Below w.heap.size w w' := by
  obtain ⟨W, HW⟩ : ∃ W, Hid (W = w.alloc (.cells (r.cells ta da tc dc) 64)) := ⟨_, rfl⟩
  have HB : Hid (Below w.heap.size w W ∧ BlkR W w.heap.size (r.cells ta da tc dc) 64) := by rw [HW.out]; exact ⟨(Below.refl _ _).alloc (Nat.le_refl _) _, heap_alloc_new w _⟩
  have HPAR : Hid (r.cells ta da tc dc = #[.int .i64 r.kind, .int .i64 r.tx, .int .u64 r.prev, .int .u64 r.next, .int .u32 r.page, .int .i64 r.op.kind, .int .i64 r.op.at', .string r.op.S, .string r.op.old, .int .i64 r.undo, .int .i64 r.index, .string r.key, .int .u32 r.rpage, .int .i64 r.rslot, .bool r.live, .slice ta r.txs.length tc, .slice da r.dirty.length dc]) := rfl
  have k0 : W.cell? ⟨w.heap.size, 0, none⟩ = some (.int .i64 r.kind) := HB.out.2.cell 0
  have HBE := hida HB.out.1
  clear HB
  rw [HPAR.out]
  go_enter Tryz.func50, Tryz.ntmps50
  go_upto_region 1 with fail
  rw [← HPAR.out, show w.alloc (.cells (r.cells ta da tc dc) 64) = W from HW.out.symm]
  clear HW HPAR
  obtain ⟨K, hK⟩ : ∃ K, r.kind = K := ⟨_, rfl⟩
  rw [hK] at k0
  by_cases h1 : K = 1
  · have d1 : (K == 1) = true := beq_iff_eq.2 h1
    have hd : decide (r.kind = 1 ∨ r.kind = 2) = true := decide_eq_true (Or.inl (hK.trans h1))
    go_wp2_with fail
    go_ret
    exact ⟨by rw [hd]; rfl, HBE.out⟩
  · have d1 : (K == 1) = false := beq_eq_false_iff_ne.2 h1
    by_cases h2 : K = 2
    · have d2 : (K == 2) = true := beq_iff_eq.2 h2
      have hd : decide (r.kind = 1 ∨ r.kind = 2) = true := decide_eq_true (Or.inr (hK.trans h2))
      go_wp2_with fail
      go_ret
      exact ⟨by rw [hd]; rfl, HBE.out⟩
    · have d2 : (K == 2) = false := beq_eq_false_iff_ne.2 h2
      have hd : decide (r.kind = 1 ∨ r.kind = 2) = false := decide_eq_false fun h => by rw [hK] at h; rcases h with h | h; exact h1 h; exact h2 h
      go_wp2_with fail
      go_ret
      exact ⟨by rw [hd]; rfl, HBE.out⟩

def ApplyIs (x : SheetV) (o : OpV) (E : Int) (y : SheetV) : Prop :=
  (E = 0 → y.Fits ∧ y.num = x.num) ∧ ∀ (lsn : Nat) (w : World) (a : Option Addr) (c : Nat), x.Ok w a →
    Calls Tryz.prog 20 #[x.val a c, o.val, .int .u64 lsn] w fun e w' => ∃ X, e = .returned (.tuple #[X, .int .i64 E]) ∧ Below w.heap.size w w' ∧
      (E = 0 → ∃ a' c', X = ({ y with lsn := lsn } : SheetV).val a' c' ∧ StrsFrom w.heap.size w' a' y.slots ∧ (∀ g k, a' = some ⟨g, k, none⟩ → w.heap.size ≤ g ∧ g < w'.heap.size)) ∧ (E ≠ 0 → X = sheet0.val none 0)

structure RpB (w wr : World) (X : Array Value) (r : Array Value) : Prop where
  bel : Below w.heap.size w wr
  x : Blk wr w.heap.size X 52
  r : Blk wr (w.heap.size + 1) r 64
  z : Blk wr (w.heap.size + 2) #[.int .u32 0, .int .u64 0, .int .i64 0, .string ⟨#[]⟩, .slice none 0 0] 52

theorem RpB.below {w wr wx : World} {X r : Array Value} (h : RpB w wr X r) (k : Below wr.heap.size wr wx) : RpB w wx X r :=
  ⟨below_chain h.bel k, h.x.same (k.block _ h.x.lt), h.r.same (k.block _ h.r.lt), h.z.same (k.block _ h.z.lt)⟩

theorem RpB.setX {w wr : World} {u0 u1 u2 u3 u4 : Value} {r : Array Value} (h : RpB w wr #[u0, u1, u2, u3, u4] r) (v0 v1 v2 v3 v4 : Value) : RpB w (fset5 wr w.heap.size v0 v1 v2 v3 v4) #[v0, v1, v2, v3, v4] r := by
  have k := fset5_kept wr w.heap.size v0 v1 v2 v3 v4
  have hs := h.bel.size
  have h1 := h.r.lt
  have h2 := h.z.lt
  exact ⟨⟨k.os.trans h.bel.os, k.tape.trans h.bel.tape, k.output.trans h.bel.output, Nat.le_trans hs k.size, fun i hi => (k.block i (Nat.lt_of_lt_of_le hi hs) (by omega)).trans (h.bel.block i hi)⟩, fset5_blk h.x v0 v1 v2 v3 v4, h.r.same (k.block _ h1 (by omega)), h.z.same (k.block _ h2 (by omega))⟩

theorem RpB.fin {w wr : World} {X r : Array Value} (h : RpB w wr X r) (v0 v1 v2 v3 v4 : Value) : Blk (fset5 wr (w.heap.size + 2) v0 v1 v2 v3 v4) (w.heap.size + 2) #[v0, v1, v2, v3, v4] 52 ∧ Below w.heap.size w (fset5 wr (w.heap.size + 2) v0 v1 v2 v3 v4) ∧ Kept (fun k => k = w.heap.size + 2) wr (fset5 wr (w.heap.size + 2) v0 v1 v2 v3 v4) := by
  have k := fset5_kept wr (w.heap.size + 2) v0 v1 v2 v3 v4
  have hs := h.bel.size
  exact ⟨fset5_blk h.z v0 v1 v2 v3 v4, ⟨k.os.trans h.bel.os, k.tape.trans h.bel.tape, k.output.trans h.bel.output, Nat.le_trans hs k.size, fun i hi => (k.block i (Nat.lt_of_lt_of_le hi hs) (by omega)).trans (h.bel.block i hi)⟩, k⟩

theorem RpB.frz {w wr : World} {X r : Array Value} (h : RpB w wr X r) (i : Nat) : wr.frozen? ⟨w.heap.size, i, none⟩ = false ∧ wr.frozen? ⟨w.heap.size + 2, i, none⟩ = false := ⟨h.x.frozen i, h.z.frozen i⟩

structure RpOut (w : World) (x : SheetV) (E : Int) (y : SheetV) (at' : Nat) (a : Option Addr) (c : Nat) (e : Ending) (w' : World) : Prop where
  bel : Below w.heap.size w w'
  stood : at' ≤ x.lsn → e = .returned (.tuple #[x.val a c, .bool false, .int .i64 0])
  no : x.lsn < at' → E ≠ 0 → e = .returned (.tuple #[sheet0.val none 0, .bool false, .int .i64 200])
  yes : x.lsn < at' → E = 0 → ∃ a' c', e = .returned (.tuple #[({ y with lsn := at' } : SheetV).val a' c', .bool true, .int .i64 0]) ∧ StrsFrom w.heap.size w' a' y.slots ∧ (∀ g k, a' = some ⟨g, k, none⟩ → w.heap.size ≤ g ∧ g < w'.heap.size)

set_option maxHeartbeats 6400000 in
set_option maxRecDepth 20000 in
theorem repeat_any {x y : SheetV} {r : RecV} {E : Int} (hA : ApplyIs x r.op E y) (at' : Nat) (a ta da : Option Addr) (c tc dc : Nat) (w : World) (hx : x.Ok w a) :
    Calls Tryz.prog 51 #[x.val a c, .int .u64 (at' : Nat), .agg (r.cells ta da tc dc)] w (RpOut w x E y at' a c) := by
  obtain ⟨W, HW⟩ : ∃ W, Hid (W = ((w.alloc (.cells #[.int .u32 x.num, .int .u64 x.lsn, .int .i64 x.kind, .string x.head, .slice a x.slots.length c] 52)).alloc (.cells (r.cells ta da tc dc) 64)).alloc (.cells #[.int .u32 0, .int .u64 0, .int .i64 0, .string ⟨#[]⟩, .slice none 0 0] 52)) := ⟨_, rfl⟩
  have H0 : Hid (RpB w W #[.int .u32 x.num, .int .u64 x.lsn, .int .i64 x.kind, .string x.head, .slice a x.slots.length c] (r.cells ta da tc dc)) := by
    rw [HW.out]
    have s1 : (w.alloc (.cells #[.int .u32 x.num, .int .u64 x.lsn, .int .i64 x.kind, .string x.head, .slice a x.slots.length c] 52)).heap.size = w.heap.size + 1 := by simp
    have s2 : ((w.alloc (.cells #[.int .u32 x.num, .int .u64 x.lsn, .int .i64 x.kind, .string x.head, .slice a x.slots.length c] 52)).alloc (.cells (r.cells ta da tc dc) 64)).heap.size = w.heap.size + 2 := by simp
    have h1 : Blk (w.alloc (.cells #[.int .u32 x.num, .int .u64 x.lsn, .int .i64 x.kind, .string x.head, .slice a x.slots.length c] 52)) w.heap.size #[.int .u32 x.num, .int .u64 x.lsn, .int .i64 x.kind, .string x.head, .slice a x.slots.length c] 52 := Blk.made _ _ _
    have h2 := Blk.made (w.alloc (.cells #[.int .u32 x.num, .int .u64 x.lsn, .int .i64 x.kind, .string x.head, .slice a x.slots.length c] 52)) (r.cells ta da tc dc) 64
    have h3 := Blk.made ((w.alloc (.cells #[.int .u32 x.num, .int .u64 x.lsn, .int .i64 x.kind, .string x.head, .slice a x.slots.length c] 52)).alloc (.cells (r.cells ta da tc dc) 64)) #[.int .u32 0, .int .u64 0, .int .i64 0, .string ⟨#[]⟩, .slice none 0 0] 52
    have b2 : Below (w.alloc (.cells #[.int .u32 x.num, .int .u64 x.lsn, .int .i64 x.kind, .string x.head, .slice a x.slots.length c] 52)).heap.size (w.alloc (.cells #[.int .u32 x.num, .int .u64 x.lsn, .int .i64 x.kind, .string x.head, .slice a x.slots.length c] 52)) ((w.alloc (.cells #[.int .u32 x.num, .int .u64 x.lsn, .int .i64 x.kind, .string x.head, .slice a x.slots.length c] 52)).alloc (.cells (r.cells ta da tc dc) 64)) := (Below.refl _ _).alloc (Nat.le_refl _) _
    have b3 : Below ((w.alloc (.cells #[.int .u32 x.num, .int .u64 x.lsn, .int .i64 x.kind, .string x.head, .slice a x.slots.length c] 52)).alloc (.cells (r.cells ta da tc dc) 64)).heap.size ((w.alloc (.cells #[.int .u32 x.num, .int .u64 x.lsn, .int .i64 x.kind, .string x.head, .slice a x.slots.length c] 52)).alloc (.cells (r.cells ta da tc dc) 64)) (((w.alloc (.cells #[.int .u32 x.num, .int .u64 x.lsn, .int .i64 x.kind, .string x.head, .slice a x.slots.length c] 52)).alloc (.cells (r.cells ta da tc dc) 64)).alloc (.cells #[.int .u32 0, .int .u64 0, .int .i64 0, .string ⟨#[]⟩, .slice none 0 0] 52)) := (Below.refl _ _).alloc (Nat.le_refl _) _
    rw [s1] at h2
    rw [s2] at h3
    exact ⟨below_chain (below_chain ((Below.refl _ _).alloc (Nat.le_refl _) _) b2) b3, (h1.same (b2.block _ h1.lt)).same (b3.block _ (by rw [s2]; omega)), h2.same (b3.block _ (by rw [s2]; omega)), h3⟩
  have HX := hida hx
  have HAP : Hid (∀ wx, Below w.heap.size w wx → Calls Tryz.prog 20 #[.agg #[.int .u32 x.num, .int .u64 x.lsn, .int .i64 x.kind, .string x.head, .slice a x.slots.length c], .agg #[.int .i64 r.op.kind, .int .i64 r.op.at', .string r.op.S, .string r.op.old], .int .u64 (at' : Nat)] wx fun e w' => ∃ X, e = .returned (.tuple #[X, .int .i64 E]) ∧ Below wx.heap.size wx w' ∧
      (E = 0 → ∃ a' c', X = ({ y with lsn := at' } : SheetV).val a' c' ∧ StrsFrom wx.heap.size w' a' y.slots ∧ (∀ g k, a' = some ⟨g, k, none⟩ → wx.heap.size ≤ g ∧ g < w'.heap.size)) ∧ (E ≠ 0 → X = sheet0.val none 0)) := fun wx hb => hA.2 at' wx a c (hx.below hb)
  have HPAR : Hid (r.cells ta da tc dc = #[.int .i64 r.kind, .int .i64 r.tx, .int .u64 r.prev, .int .u64 r.next, .int .u32 r.page, .int .i64 r.op.kind, .int .i64 r.op.at', .string r.op.S, .string r.op.old, .int .i64 r.undo, .int .i64 r.index, .string r.key, .int .u32 r.rpage, .int .i64 r.rslot, .bool r.live, .slice ta r.txs.length tc, .slice da r.dirty.length dc]) := rfl
  have HV : Hid (x.val a c = .agg #[.int .u32 x.num, .int .u64 x.lsn, .int .i64 x.kind, .string x.head, .slice a x.slots.length c]) := rfl
  clear hA hx
  rw [HV.out, HPAR.out]
  have o5 : W.cell? ⟨w.heap.size + 1, 5, none⟩ = some (.int .i64 r.op.kind) := H0.out.r.cell 5
  have o6 : W.cell? ⟨w.heap.size + 1, 6, none⟩ = some (.int .i64 r.op.at') := H0.out.r.cell 6
  have o7 : W.cell? ⟨w.heap.size + 1, 7, none⟩ = some (.string r.op.S) := H0.out.r.cell 7
  have o8 : W.cell? ⟨w.heap.size + 1, 8, none⟩ = some (.string r.op.old) := H0.out.r.cell 8
  have x0 : W.cell? ⟨w.heap.size, 0, none⟩ = some (.int .u32 (x.num : Nat)) := H0.out.x.cell 0
  have x1 : W.cell? ⟨w.heap.size, 1, none⟩ = some (.int .u64 (x.lsn : Nat)) := H0.out.x.cell 1
  have x2 : W.cell? ⟨w.heap.size, 2, none⟩ = some (.int .i64 x.kind) := H0.out.x.cell 2
  have x3 : W.cell? ⟨w.heap.size, 3, none⟩ = some (.string x.head) := H0.out.x.cell 3
  have x4 : W.cell? ⟨w.heap.size, 4, none⟩ = some (.slice a x.slots.length c) := H0.out.x.cell 4
  go_enter Tryz.func51, Tryz.ntmps51
  go_upto_region 1 with fail
  rw [← HPAR.out, show ((w.alloc (.cells #[.int .u32 x.num, .int .u64 x.lsn, .int .i64 x.kind, .string x.head, .slice a x.slots.length c] 52)).alloc (.cells (r.cells ta da tc dc) 64)).alloc (.cells #[.int .u32 0, .int .u64 0, .int .i64 0, .string ⟨#[]⟩, .slice none 0 0] 52) = W from HW.out.symm]
  clear HW HPAR
  by_cases hl : at' ≤ x.lsn
  · have d1 : decide ((at' : Int) ≤ (x.lsn : Int)) = true := decide_eq_true (by omega)
    have q0 : W.cell? ⟨w.heap.size + 2, 0, none⟩ = some (.int .u32 0) := H0.out.z.cell 0
    have q1 : W.cell? ⟨w.heap.size + 2, 1, none⟩ = some (.int .u64 0) := H0.out.z.cell 1
    have q2 : W.cell? ⟨w.heap.size + 2, 2, none⟩ = some (.int .i64 0) := H0.out.z.cell 2
    have q3 : W.cell? ⟨w.heap.size + 2, 3, none⟩ = some (.string ⟨#[]⟩) := H0.out.z.cell 3
    have q4 : W.cell? ⟨w.heap.size + 2, 4, none⟩ = some (.slice none 0 0) := H0.out.z.cell 4
    have z0 := (H0.out.frz 0).2
    have z1 := (H0.out.frz 1).2
    have z2 := (H0.out.frz 2).2
    have z3 := (H0.out.frz 3).2
    have z4 := (H0.out.frz 4).2
    obtain ⟨WX, HWX⟩ : ∃ WX, Hid (fset5 W (w.heap.size + 2) (.int .u32 x.num) (.int .u64 x.lsn) (.int .i64 x.kind) (.string x.head) (.slice a x.slots.length c) = WX) := ⟨_, rfl⟩
    have HFI := hida (H0.out.fin (.int .u32 x.num) (.int .u64 x.lsn) (.int .i64 x.kind) (.string x.head) (.slice a x.slots.length c))
    rw [HWX.out] at HFI
    clear H0 HAP HX
    go_wp2_with fail
    rw [show (((((W.setCell ⟨w.heap.size + 2, 0, none⟩ (.int .u32 x.num)).setCell ⟨w.heap.size + 2, 1, none⟩ (.int .u64 x.lsn)).setCell ⟨w.heap.size + 2, 2, none⟩ (.int .i64 x.kind)).setCell ⟨w.heap.size + 2, 3, none⟩ (.string x.head)).setCell ⟨w.heap.size + 2, 4, none⟩ (.slice a x.slots.length c)) = WX from HWX.out]
    have t0 : WX.cell? ⟨w.heap.size + 2, 0, none⟩ = some (.int .u32 (x.num : Nat)) := HFI.out.1.cell 0
    have t1 : WX.cell? ⟨w.heap.size + 2, 1, none⟩ = some (.int .u64 (x.lsn : Nat)) := HFI.out.1.cell 1
    have t2 : WX.cell? ⟨w.heap.size + 2, 2, none⟩ = some (.int .i64 x.kind) := HFI.out.1.cell 2
    have t3 : WX.cell? ⟨w.heap.size + 2, 3, none⟩ = some (.string x.head) := HFI.out.1.cell 3
    have t4 : WX.cell? ⟨w.heap.size + 2, 4, none⟩ = some (.slice a x.slots.length c) := HFI.out.1.cell 4
    refine bodyPost_ret (v := .tuple #[.agg #[.int .u32 x.num, .int .u64 x.lsn, .int .i64 x.kind, .string x.head, .slice a x.slots.length c], .bool false, .int .i64 0]) (by simp [results, Tryz.results51, go_sem, t0, t1, t2, t3, t4]) rfl ?_
    exact ⟨HFI.out.2.1, fun _ => rfl, fun h => by omega, fun h => by omega⟩
  · have d1 : decide ((at' : Int) ≤ (x.lsn : Int)) = false := decide_eq_false (by omega)
    have HC := hida (HAP.out W H0.out.bel)
    clear HAP
    go_wp2_with fail
    refine HC.out.mono ?_
    rintro e w1 ⟨X, rfl, b1, hy, hn⟩
    have H1 := hida (H0.out.below b1)
    have z0 := (H1.out.frz 0).1
    have z1 := (H1.out.frz 1).1
    have z2 := (H1.out.frz 2).1
    have z3 := (H1.out.frz 3).1
    have z4 := (H1.out.frz 4).1
    have y0 : w1.cell? ⟨w.heap.size, 0, none⟩ = some (.int .u32 (x.num : Nat)) := H1.out.x.cell 0
    have y1 : w1.cell? ⟨w.heap.size, 1, none⟩ = some (.int .u64 (x.lsn : Nat)) := H1.out.x.cell 1
    have y2 : w1.cell? ⟨w.heap.size, 2, none⟩ = some (.int .i64 x.kind) := H1.out.x.cell 2
    have y3 : w1.cell? ⟨w.heap.size, 3, none⟩ = some (.string x.head) := H1.out.x.cell 3
    have y4 : w1.cell? ⟨w.heap.size, 4, none⟩ = some (.slice a x.slots.length c) := H1.out.x.cell 4
    have hb0 := H0.out.bel
    have hWs := H0.out.bel.size
    by_cases hE : E = 0
    · obtain ⟨a', c', rfl, hst, how⟩ := hy hE
      have HST := hida (show StrsFrom W.heap.size w1 a' y.slots ∧ ∀ g k, a' = some ⟨g, k, none⟩ → W.heap.size ≤ g ∧ g < w1.heap.size from ⟨hst, how⟩)
      have HSZ := hida H0.out.z.lt
      clear hy hn hst how H0 HC o5 o6 o7 o8 x0 x1 x2 x3 x4 b1 hb0
      subst hE
      rw [show (({ y with lsn := at' } : SheetV).val a' c') = .agg #[.int .u32 y.num, .int .u64 at', .int .i64 y.kind, .string y.head, .slice a' y.slots.length c'] from rfl]
      obtain ⟨W2, HW2⟩ : ∃ W2, Hid (fset5 w1 w.heap.size (.int .u32 y.num) (.int .u64 at') (.int .i64 y.kind) (.string y.head) (.slice a' y.slots.length c') = W2) := ⟨_, rfl⟩
      have H2 := hida (H1.out.setX (.int .u32 y.num) (.int .u64 at') (.int .i64 y.kind) (.string y.head) (.slice a' y.slots.length c'))
      have HK2 := hida (fset5_kept w1 w.heap.size (.int .u32 y.num) (.int .u64 at') (.int .i64 y.kind) (.string y.head) (.slice a' y.slots.length c'))
      rw [HW2.out] at H2 HK2
      clear H1
      go_upto_region 4 with fail
      rw [show (((((w1.setCell ⟨w.heap.size, 0, none⟩ (.int .u32 y.num)).setCell ⟨w.heap.size, 1, none⟩ (.int .u64 at')).setCell ⟨w.heap.size, 2, none⟩ (.int .i64 y.kind)).setCell ⟨w.heap.size, 3, none⟩ (.string y.head)).setCell ⟨w.heap.size, 4, none⟩ (.slice a' y.slots.length c')) = W2 from HW2.out]
      clear HW2 z0 z1 z2 z3 z4 y0 y1 y2 y3 y4
      have x0 : W2.cell? ⟨w.heap.size, 0, none⟩ = some (.int .u32 (y.num : Nat)) := H2.out.x.cell 0
      have x1 : W2.cell? ⟨w.heap.size, 1, none⟩ = some (.int .u64 (at' : Nat)) := H2.out.x.cell 1
      have x2 : W2.cell? ⟨w.heap.size, 2, none⟩ = some (.int .i64 y.kind) := H2.out.x.cell 2
      have x3 : W2.cell? ⟨w.heap.size, 3, none⟩ = some (.string y.head) := H2.out.x.cell 3
      have x4 : W2.cell? ⟨w.heap.size, 4, none⟩ = some (.slice a' y.slots.length c') := H2.out.x.cell 4
      have q0 : W2.cell? ⟨w.heap.size + 2, 0, none⟩ = some (.int .u32 0) := H2.out.z.cell 0
      have q1 : W2.cell? ⟨w.heap.size + 2, 1, none⟩ = some (.int .u64 0) := H2.out.z.cell 1
      have q2 : W2.cell? ⟨w.heap.size + 2, 2, none⟩ = some (.int .i64 0) := H2.out.z.cell 2
      have q3 : W2.cell? ⟨w.heap.size + 2, 3, none⟩ = some (.string ⟨#[]⟩) := H2.out.z.cell 3
      have q4 : W2.cell? ⟨w.heap.size + 2, 4, none⟩ = some (.slice none 0 0) := H2.out.z.cell 4
      have z0 := (H2.out.frz 0).2
      have z1 := (H2.out.frz 1).2
      have z2 := (H2.out.frz 2).2
      have z3 := (H2.out.frz 3).2
      have z4 := (H2.out.frz 4).2
      obtain ⟨WX, HWX⟩ : ∃ WX, Hid (fset5 W2 (w.heap.size + 2) (.int .u32 y.num) (.int .u64 at') (.int .i64 y.kind) (.string y.head) (.slice a' y.slots.length c') = WX) := ⟨_, rfl⟩
      have HFI := hida (H2.out.fin (.int .u32 y.num) (.int .u64 at') (.int .i64 y.kind) (.string y.head) (.slice a' y.slots.length c'))
      rw [HWX.out] at HFI
      clear H2
      go_wp2_with fail
      rw [show (((((W2.setCell ⟨w.heap.size + 2, 0, none⟩ (.int .u32 y.num)).setCell ⟨w.heap.size + 2, 1, none⟩ (.int .u64 at')).setCell ⟨w.heap.size + 2, 2, none⟩ (.int .i64 y.kind)).setCell ⟨w.heap.size + 2, 3, none⟩ (.string y.head)).setCell ⟨w.heap.size + 2, 4, none⟩ (.slice a' y.slots.length c')) = WX from HWX.out]
      have t0 : WX.cell? ⟨w.heap.size + 2, 0, none⟩ = some (.int .u32 (y.num : Nat)) := HFI.out.1.cell 0
      have t1 : WX.cell? ⟨w.heap.size + 2, 1, none⟩ = some (.int .u64 (at' : Nat)) := HFI.out.1.cell 1
      have t2 : WX.cell? ⟨w.heap.size + 2, 2, none⟩ = some (.int .i64 y.kind) := HFI.out.1.cell 2
      have t3 : WX.cell? ⟨w.heap.size + 2, 3, none⟩ = some (.string y.head) := HFI.out.1.cell 3
      have t4 : WX.cell? ⟨w.heap.size + 2, 4, none⟩ = some (.slice a' y.slots.length c') := HFI.out.1.cell 4
      refine bodyPost_ret (v := .tuple #[.agg #[.int .u32 y.num, .int .u64 at', .int .i64 y.kind, .string y.head, .slice a' y.slots.length c'], .bool true, .int .i64 0]) (by simp [results, Tryz.results51, go_sem, t0, t1, t2, t3, t4]) rfl ?_
      have hw1 : w1.heap.size ≤ W2.heap.size := HK2.out.size
      have hw2 : W2.heap.size ≤ WX.heap.size := HFI.out.2.2.size
      have hsz := HSZ.out
      refine ⟨HFI.out.2.1, fun h => by omega, fun _ h => absurd rfl h, fun _ _ => ⟨a', c', rfl, ?_, fun g k e => by have := HST.out.2 g k e; omega⟩⟩
      rcases HST.out.1 with h | ⟨b, o, e, h1, h2, h3⟩
      · exact .inl h
      · exact .inr ⟨b, o, e, by omega, by omega, fun i hi => (World.cell?_of_block (w := W2) (a := ⟨b, o + i, none⟩) (HFI.out.2.2.block b (by omega) (by omega))).trans ((World.cell?_of_block (w := w1) (a := ⟨b, o + i, none⟩) (HK2.out.block b h2 (by omega))).trans (h3 i hi))⟩
    · have hX := hn hE
      subst hX
      clear hy hn H0 HC o5 o6 o7 o8 x0 x1 x2 x3 x4 b1 hb0
      rw [show sheet0.val none 0 = .agg #[.int .u32 0, .int .u64 0, .int .i64 0, .string ⟨#[]⟩, .slice none 0 0] from rfl]
      obtain ⟨W2, HW2⟩ : ∃ W2, Hid (fset5 w1 w.heap.size (.int .u32 0) (.int .u64 0) (.int .i64 0) (.string ⟨#[]⟩) (.slice none 0 0) = W2) := ⟨_, rfl⟩
      have H2 := hida (H1.out.setX (.int .u32 0) (.int .u64 0) (.int .i64 0) (.string ⟨#[]⟩) (.slice none 0 0))
      rw [HW2.out] at H2
      clear H1
      go_upto_region 4 with fail
      rw [show (((((w1.setCell ⟨w.heap.size, 0, none⟩ (.int .u32 0)).setCell ⟨w.heap.size, 1, none⟩ (.int .u64 0)).setCell ⟨w.heap.size, 2, none⟩ (.int .i64 0)).setCell ⟨w.heap.size, 3, none⟩ (.string ⟨#[]⟩)).setCell ⟨w.heap.size, 4, none⟩ (.slice none 0 0)) = W2 from HW2.out]
      clear HW2 z0 z1 z2 z3 z4 y0 y1 y2 y3 y4
      have d2 : (E != 0) = true := bne_iff_ne.2 hE
      have q0 : W2.cell? ⟨w.heap.size + 2, 0, none⟩ = some (.int .u32 0) := H2.out.z.cell 0
      have q1 : W2.cell? ⟨w.heap.size + 2, 1, none⟩ = some (.int .u64 0) := H2.out.z.cell 1
      have q2 : W2.cell? ⟨w.heap.size + 2, 2, none⟩ = some (.int .i64 0) := H2.out.z.cell 2
      have q3 : W2.cell? ⟨w.heap.size + 2, 3, none⟩ = some (.string ⟨#[]⟩) := H2.out.z.cell 3
      have q4 : W2.cell? ⟨w.heap.size + 2, 4, none⟩ = some (.slice none 0 0) := H2.out.z.cell 4
      have z0 := (H2.out.frz 0).2
      have z1 := (H2.out.frz 1).2
      have z2 := (H2.out.frz 2).2
      have z3 := (H2.out.frz 3).2
      have z4 := (H2.out.frz 4).2
      obtain ⟨WX, HWX⟩ : ∃ WX, Hid (fset5 W2 (w.heap.size + 2) (.int .u32 0) (.int .u64 0) (.int .i64 0) (.string ⟨#[]⟩) (.slice none 0 0) = WX) := ⟨_, rfl⟩
      have HFI := hida (H2.out.fin (.int .u32 0) (.int .u64 0) (.int .i64 0) (.string ⟨#[]⟩) (.slice none 0 0))
      rw [HWX.out] at HFI
      clear H2
      go_wp2_with fail
      rw [show (((((W2.setCell ⟨w.heap.size + 2, 0, none⟩ (.int .u32 0)).setCell ⟨w.heap.size + 2, 1, none⟩ (.int .u64 0)).setCell ⟨w.heap.size + 2, 2, none⟩ (.int .i64 0)).setCell ⟨w.heap.size + 2, 3, none⟩ (.string ⟨#[]⟩)).setCell ⟨w.heap.size + 2, 4, none⟩ (.slice none 0 0)) = WX from HWX.out]
      have t0 : WX.cell? ⟨w.heap.size + 2, 0, none⟩ = some (.int .u32 0) := HFI.out.1.cell 0
      have t1 : WX.cell? ⟨w.heap.size + 2, 1, none⟩ = some (.int .u64 0) := HFI.out.1.cell 1
      have t2 : WX.cell? ⟨w.heap.size + 2, 2, none⟩ = some (.int .i64 0) := HFI.out.1.cell 2
      have t3 : WX.cell? ⟨w.heap.size + 2, 3, none⟩ = some (.string ⟨#[]⟩) := HFI.out.1.cell 3
      have t4 : WX.cell? ⟨w.heap.size + 2, 4, none⟩ = some (.slice none 0 0) := HFI.out.1.cell 4
      refine bodyPost_ret (v := .tuple #[.agg #[.int .u32 0, .int .u64 0, .int .i64 0, .string ⟨#[]⟩, .slice none 0 0], .bool false, .int .i64 200]) (by simp [results, Tryz.results51, go_sem, t0, t1, t2, t3, t4]) rfl ?_
      exact ⟨HFI.out.2.1, fun h => by omega, fun _ _ => rfl, fun _ h => absurd h hE⟩

end Go.Proofs.YtgkfdakieebnmaaGreat
