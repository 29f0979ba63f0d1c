/-
  The walk of girderlaw04.RecSame.
-/
import Derived.Test.YtdkjbnnldbmkmaaSamePair
import Derived.Deep.CutRange
import Derived.Deep.RegionHeld3
import Derived.Deep.CutBlock
import Derived.BigQuiet
import Derived.Test.YtdkjbnnldbmkmaaRowPlain
namespace Go.Proofs.Ytdkjbnnldbmkmaa
open Go.RowKit Go.Sort
set_option linter.unusedVariables false

set_option maxHeartbeats 6400000 in
set_option maxRecDepth 8000 in
theorem lawSame_any (a b : RecV) (ta da tb db : Option Addr) (tc dc uc vc : Nat) (w : World) (ha : a.Ok w ta da) (hb : b.Ok w tb db) :
    Calls Try.prog 5 #[.agg (a.cells ta da tc dc), .agg (b.cells tb db uc vc)] w fun e w' => e = .returned (.bool true) ∧ Below w.heap.size w w' := by
  have HA : Hid (∀ wx, Below w.heap.size w wx → Calls Try.prog 10 #[.agg (a.cells ta da tc dc)] wx fun e w' => ∃ ta' da' tc' dc', e = .returned (.agg (a.cells ta' da' tc' dc')) ∧ Below wx.heap.size wx w' ∧ TxsAt w' ta' a.txs ∧ DisAt w' da' a.dirty ∧ NewR wx.heap.size ta' ∧ NewR wx.heap.size da') := fun wx k => lref_any a ta da tc dc wx (ha.below k)
  have HB : Hid (∀ wx, Below w.heap.size w wx → Calls Try.prog 10 #[.agg (b.cells tb db uc vc)] wx fun e w' => ∃ ta' da' tc' dc', e = .returned (.agg (b.cells ta' da' tc' dc')) ∧ Below wx.heap.size wx w' ∧ TxsAt w' ta' b.txs ∧ DisAt w' da' b.dirty ∧ NewR wx.heap.size ta' ∧ NewR wx.heap.size da') := fun wx k => lref_any b tb db uc vc wx (hb.below k)
  have HOA := hidr ha
  have HOB := hidr hb
  clear ha hb
  obtain ⟨W, HW⟩ : ∃ W, Hid (W = (w.alloc (.cells (a.cells ta da tc dc) 35)).alloc (.cells (b.cells tb db uc vc) 35)) := ⟨_, rfl⟩
  have B00 : Hid (Below w.heap.size w W) := by show Below _ _ _; rw [HW.out]; exact ((Below.refl _ _).alloc (Nat.le_refl _) _).alloc (by simp) _
  have HPA : Hid (W.heap[w.heap.size]? = some (.cells (a.cells ta da tc dc) 35 (0, 0))) := by show _ = _; rw [HW.out]; exact (Below.heap_alloc _ _ _ (by simp)).trans (heap_alloc_new w _)
  have HPB : Hid (W.heap[w.heap.size + 1]? = some (.cells (b.cells tb db uc vc) 35 (0, 0))) := by
    show _ = _
    rw [HW.out]
    have := heap_alloc_new (w.alloc (.cells (a.cells ta da tc dc) 35)) (.cells (b.cells tb db uc vc) 35)
    rw [show (w.alloc (.cells (a.cells ta da tc dc) 35)).heap.size = w.heap.size + 1 by simp] at this
    exact this
  have HLA : Hid (a.cells ta da tc dc = #[.int .i64 a.kind, .int .i64 a.tx, .int .u64 a.prev, .int .u64 a.next, .int .u32 a.page, .int .i64 a.op.kind, .int .i64 a.op.at', .string a.op.S, .string a.op.old, .int .i64 a.undo, .int .i64 a.index, .string a.key, .int .u32 a.rpage, .int .i64 a.rslot, .bool a.live, .slice ta a.txs.length tc, .slice da a.dirty.length dc]) := rfl
  have HLB : Hid (b.cells tb db uc vc = #[.int .i64 b.kind, .int .i64 b.tx, .int .u64 b.prev, .int .u64 b.next, .int .u32 b.page, .int .i64 b.op.kind, .int .i64 b.op.at', .string b.op.S, .string b.op.old, .int .i64 b.undo, .int .i64 b.index, .string b.key, .int .u32 b.rpage, .int .i64 b.rslot, .bool b.live, .slice tb b.txs.length uc, .slice db b.dirty.length vc]) := rfl
  rw [HLA.out, HLB.out]
  go_enter Try.func5, Try.ntmps5
  go_upto_region 1 with fail
  rw [← HLA.out, ← HLB.out, show (w.alloc (.cells (a.cells ta da tc dc) 35)).alloc (.cells (b.cells tb db uc vc) 35) = W from HW.out.symm]
  clear HW
  go_cut [5, 6] from 10 to 13 (fun v5 v6 wx => ∃ (p q : Nat) (ta1 da1 tb1 db1 : Option Addr) (tc1 dc1 uc1 vc1 : Nat), v5 = .pointer (some ⟨p, 0, none⟩) ∧ v6 = .pointer (some ⟨q, 0, none⟩) ∧ PairAt w wx a b (a.cells ta da tc dc) (b.cells tb db uc vc) p q ta1 da1 tb1 db1 tc1 dc1 uc1 vc1)
  case first =>
    refine wp_region_noPanic ?_
    refine wp_region_held_drew (S := (fun wy : World => wy.heap[w.heap.size]? = some (.cells (a.cells ta da tc dc) 35 (0, 0)) ∧ wy.heap[w.heap.size + 1]? = some (.cells (b.cells tb db uc vc) 35 (0, 0)))) cmixed ⟨HPA.out, HPB.out⟩ (fun hS0 => ?_)
    obtain ⟨x0, HX0⟩ : ∃ y, Hid (y = W.drew) := ⟨_, rfl⟩
    rw [← HX0.out]
    have B0 : Hid (Below w.heap.size w x0) := by show Below _ _ _; rw [HX0.out]; exact B00.out.drew
    rw [← HX0.out] at hS0
    clear HX0 HPA HPB B00
    refine wpAnyH_take (i := 0) (v := .agg (a.cells ta da tc dc)) (by simp only [List.getElem?_toArray, List.getElem?_cons_zero]; rfl) (by kernel_rfl) (by kernel_rfl) (by kernel_rfl) (fun _ _ _ h => h) (yields_loadRow (by rfl) _ _ (by rfl) w.heap.size (by rfl) _ _ (0, 0) (fun _ h => h.1) _ Try.underlying35 rfl (by kernel_rfl)) hS0 ?_
    try simp only [Act.put, List.setIfInBounds_toArray, List.set_cons_zero, List.set_cons_succ]
    refine wpAnyH_take (i := 2) (v := .agg (b.cells tb db uc vc)) (by simp only [List.getElem?_toArray, List.getElem?_cons_succ, List.getElem?_cons_zero]; rfl) (by kernel_rfl) (by kernel_rfl) (by kernel_rfl) (fun _ _ _ h => h) (yields_loadRow (by rfl) _ _ (by rfl) (w.heap.size + 1) (by rfl) _ _ (0, 0) (fun _ h => h.2) _ Try.underlying35 rfl (by kernel_rfl)) hS0 ?_
    try simp only [Act.put, List.setIfInBounds_toArray, List.set_cons_zero, List.set_cons_succ]
    refine wpAnyH_ready (rs := [1, 4, 5]) (by kernel_rfl) (by simp) ?_
    refine (AllReadyH.cons (i := 1) (by simp only [List.getElem?_toArray, List.getElem?_cons_succ, List.getElem?_cons_zero]; rfl) (fun K hK => ?_) (AllReadyH.cons (i := 4) (by simp only [List.getElem?_toArray, List.getElem?_cons_succ, List.getElem?_cons_zero]; rfl) (fun K hK => ?_) (AllReadyH.cons (i := 5) (by simp only [List.getElem?_toArray, List.getElem?_cons_succ, List.getElem?_cons_zero]; rfl) (fun K hK => ?_) AllReadyH.nil)))
    · go_simp
      refine (HA.out x0 B0.out).mono ?_
      rintro e x1 ⟨ta1, da1, tc1, dc1, rfl, bb, t1, t2, n1, n2⟩
      have B1 : Hid (Below w.heap.size w x1) := below_chain B0.out bb
      have T1 : Hid (TxsAt x1 ta1 a.txs ∧ DisAt x1 da1 a.dirty) := ⟨t1, t2⟩
      refine hK.out _ _ ⟨(bb.block _ (Array.getElem?_eq_some_iff.1 hS0.1).1).trans hS0.1, (bb.block _ (Array.getElem?_eq_some_iff.1 hS0.2).1).trans hS0.2⟩ (fun hS1 => ?_)
      clear hK K bb
      try simp only [Act.put, List.setIfInBounds_toArray, List.set_cons_zero, List.set_cons_succ]
      refine wpAnyH_ready (rs := [3, 4, 5]) (by kernel_rfl) (by simp) ?_
      refine (AllReadyH.cons (i := 3) (by simp only [List.getElem?_toArray, List.getElem?_cons_succ, List.getElem?_cons_zero]; rfl) (fun K hK => ?_) (AllReadyH.cons (i := 4) (by simp only [List.getElem?_toArray, List.getElem?_cons_succ, List.getElem?_cons_zero]; rfl) (fun K hK => ?_) (AllReadyH.cons (i := 5) (by simp only [List.getElem?_toArray, List.getElem?_cons_succ, List.getElem?_cons_zero]; rfl) (fun K hK => ?_) AllReadyH.nil)))
      · go_simp
        refine (HB.out x1 B1.out).mono ?_
        rintro e x2 ⟨ta3, da3, tc3, dc3, rfl, bb, t1, t2, n1, n2⟩
        have B2 : Hid (Below w.heap.size w x2) := below_chain B1.out bb
        have T2 : Hid (TxsAt x2 ta3 b.txs ∧ DisAt x2 da3 b.dirty) := ⟨t1, t2⟩
        have T2c1 : Hid (TxsAt x2 ta1 a.txs ∧ DisAt x2 da1 a.dirty) := ⟨T1.out.1.below bb, T1.out.2.below bb⟩
        refine hK.out _ _ ⟨(bb.block _ (Array.getElem?_eq_some_iff.1 hS1.1).1).trans hS1.1, (bb.block _ (Array.getElem?_eq_some_iff.1 hS1.2).1).trans hS1.2⟩ (fun hS2 => ?_)
        clear hK K bb
        try simp only [Act.put, List.setIfInBounds_toArray, List.set_cons_zero, List.set_cons_succ]
        refine wpAnyH_ready (rs := [4, 5]) (by kernel_rfl) (by simp) ?_
        refine (AllReadyH.cons (i := 4) (by simp only [List.getElem?_toArray, List.getElem?_cons_succ, List.getElem?_cons_zero]; rfl) (fun K hK => ?_) (AllReadyH.cons (i := 5) (by simp only [List.getElem?_toArray, List.getElem?_cons_succ, List.getElem?_cons_zero]; rfl) (fun K hK => ?_) AllReadyH.nil))
        · go_simp
          have bb : Below x2.heap.size x2 (x2.alloc (.cells zeroCellsR 46)) := (Below.refl _ _).alloc (Nat.le_refl _) _
          have kk : BlkR (x2.alloc (.cells zeroCellsR 46)) x2.heap.size zeroCellsR 46 := heap_alloc_new x2 _
          obtain ⟨x3, HW3⟩ : ∃ y, Hid (y = x2.alloc (.cells zeroCellsR 46)) := ⟨_, rfl⟩
          obtain ⟨p4, hp3⟩ : ∃ y, y = x2.heap.size := ⟨_, rfl⟩
          rw [show x2.alloc (.cells #[.int .i64 0, .int .i64 0, .int .u64 0, .int .u64 0, .int .u32 0, .int .i64 0, .int .i64 0, .string ⟨#[]⟩, .string ⟨#[]⟩, .int .i64 0, .int .i64 0, .string ⟨#[]⟩, .int .u32 0, .int .i64 0, .bool false, .slice none 0 0, .slice none 0 0] 46) = x3 from HW3.out.symm, ← hp3]
          rw [← HW3.out] at bb kk
          rw [← hp3] at kk
          have B3 : Hid (Below w.heap.size w x3) := below_chain B2.out bb
          have P3 : Hid (BlkR x3 p4 zeroCellsR 46 ∧ w.heap.size + 2 ≤ p4) := ⟨kk, by have := (Array.getElem?_eq_some_iff.1 hS2.2).1; omega⟩
          have O14 : Hid (OffR a.txs.length ta1 p4 ∧ OffR a.dirty.length da1 p4) := ⟨hp3 ▸ off_t T2c1.out.1, hp3 ▸ off_d T2c1.out.2⟩
          have O34 : Hid (OffR b.txs.length ta3 p4 ∧ OffR b.dirty.length da3 p4) := ⟨hp3 ▸ off_t T2.out.1, hp3 ▸ off_d T2.out.2⟩
          clear HW3 hp3 kk
          have T3c1 : Hid (TxsAt x3 ta1 a.txs ∧ DisAt x3 da1 a.dirty) := ⟨T2c1.out.1.below bb, T2c1.out.2.below bb⟩
          have T3c3 : Hid (TxsAt x3 ta3 b.txs ∧ DisAt x3 da3 b.dirty) := ⟨T2.out.1.below bb, T2.out.2.below bb⟩
          refine hK.out _ _ ⟨(bb.block _ (Array.getElem?_eq_some_iff.1 hS2.1).1).trans hS2.1, (bb.block _ (Array.getElem?_eq_some_iff.1 hS2.2).1).trans hS2.2⟩ (fun hS3 => ?_)
          clear hK K bb
          try simp only [Act.put, List.setIfInBounds_toArray, List.set_cons_zero, List.set_cons_succ]
          refine wpAnyH_ready (rs := [5]) (by kernel_rfl) (by simp) ?_
          refine (AllReadyH.cons (i := 5) (by simp only [List.getElem?_toArray, List.getElem?_cons_succ, List.getElem?_cons_zero]; rfl) (fun K hK => ?_) AllReadyH.nil)
          · go_simp
            have bb : Below x3.heap.size x3 (x3.alloc (.cells zeroCellsR 46)) := (Below.refl _ _).alloc (Nat.le_refl _) _
            have kk : BlkR (x3.alloc (.cells zeroCellsR 46)) x3.heap.size zeroCellsR 46 := heap_alloc_new x3 _
            obtain ⟨x4, HW4⟩ : ∃ y, Hid (y = x3.alloc (.cells zeroCellsR 46)) := ⟨_, rfl⟩
            obtain ⟨p5, hp4⟩ : ∃ y, y = x3.heap.size := ⟨_, rfl⟩
            rw [show x3.alloc (.cells #[.int .i64 0, .int .i64 0, .int .u64 0, .int .u64 0, .int .u32 0, .int .i64 0, .int .i64 0, .string ⟨#[]⟩, .string ⟨#[]⟩, .int .i64 0, .int .i64 0, .string ⟨#[]⟩, .int .u32 0, .int .i64 0, .bool false, .slice none 0 0, .slice none 0 0] 46) = x4 from HW4.out.symm, ← hp4]
            rw [← HW4.out] at bb kk
            rw [← hp4] at kk
            have B4 : Hid (Below w.heap.size w x4) := below_chain B3.out bb
            have P4 : Hid (BlkR x4 p5 zeroCellsR 46 ∧ w.heap.size + 2 ≤ p5) := ⟨kk, by have := (Array.getElem?_eq_some_iff.1 hS3.2).1; omega⟩
            have O15 : Hid (OffR a.txs.length ta1 p5 ∧ OffR a.dirty.length da1 p5) := ⟨hp4 ▸ off_t T3c1.out.1, hp4 ▸ off_d T3c1.out.2⟩
            have O35 : Hid (OffR b.txs.length ta3 p5 ∧ OffR b.dirty.length da3 p5) := ⟨hp4 ▸ off_t T3c3.out.1, hp4 ▸ off_d T3c3.out.2⟩
            have NE : Hid (p4 ≠ p5) := by have := P3.out.1.lt; show p4 ≠ p5; omega
            clear HW4 hp4 kk
            have T4c1 : Hid (TxsAt x4 ta1 a.txs ∧ DisAt x4 da1 a.dirty) := ⟨T3c1.out.1.below bb, T3c1.out.2.below bb⟩
            have T4c3 : Hid (TxsAt x4 ta3 b.txs ∧ DisAt x4 da3 b.dirty) := ⟨T3c3.out.1.below bb, T3c3.out.2.below bb⟩
            have P4a4 : Hid (BlkR x4 p4 zeroCellsR 46 ∧ w.heap.size + 2 ≤ p4) := ⟨(bb.block _ P3.out.1.lt).trans P3.out.1, P3.out.2⟩
            refine hK.out _ _ ⟨(bb.block _ (Array.getElem?_eq_some_iff.1 hS3.1).1).trans hS3.1, (bb.block _ (Array.getElem?_eq_some_iff.1 hS3.2).1).trans hS3.2⟩ (fun hS4 => ?_)
            clear hK K bb
            try simp only [Act.put, List.setIfInBounds_toArray, List.set_cons_zero, List.set_cons_succ]
            have HM : Hid (PairMid w x4 a b (a.cells ta da tc dc) (b.cells tb db uc vc) p4 p5 ta1 da1 ta3 da3) := ⟨B4.out, hS4.1, hS4.2, P4a4.out.1, P4.out.1, P4a4.out.2, P4.out.2, NE.out, ⟨T4c1.out.1, O14.out.1, O15.out.1⟩, ⟨T4c1.out.2, O14.out.2, O15.out.2⟩, ⟨T4c3.out.1, O34.out.1, O35.out.1⟩, ⟨T4c3.out.2, O34.out.2, O35.out.2⟩⟩
            refine wpAnyH_ready (rs := [6]) (by kernel_rfl) (by simp) ?_
            refine AllReadyH.cons (i := 6) (by simp only [List.getElem?_toArray, List.getElem?_cons_succ, List.getElem?_cons_zero]; rfl) (fun K hK => ?_) AllReadyH.nil
            refine step_storeRow (by rfl) _ _ _ (by rfl) (by rfl) p4 (by rfl) (a.cells ta1 da1 tc1 dc1) zeroCellsR (by rfl) _ HM.out.xa (by kernel_rfl) (by rfl) (ref_one a _ _ _ _ _ _) ?_
            refine hK.out _ _ ⟨(setRow_other _ _ _ _ (by have := HM.out.hp; omega)).trans HM.out.pa, (setRow_other _ _ _ _ (by have := HM.out.hp; omega)).trans HM.out.pb⟩ (fun hZ1 => ?_)
            clear hK K
            refine wpAnyH_ready (rs := [7]) (by kernel_rfl) (by simp) ?_
            refine AllReadyH.cons (i := 7) (by simp only [List.getElem?_toArray, List.getElem?_cons_succ, List.getElem?_cons_zero]; rfl) (fun K hK => ?_) AllReadyH.nil
            refine step_storeRow (by rfl) _ _ _ (by rfl) (by rfl) p5 (by rfl) (b.cells ta3 da3 tc3 dc3) zeroCellsR (by rfl) _ ((setRow_other _ _ _ _ (Ne.symm HM.out.ne)).trans HM.out.xb) (by kernel_rfl) (by rfl) (ref_one b _ _ _ _ _ _) ?_
            refine hK.out _ _ ⟨(setRow_other _ _ _ _ (by have := HM.out.hq; omega)).trans hZ1.1, (setRow_other _ _ _ _ (by have := HM.out.hq; omega)).trans hZ1.2⟩ (fun hZ2 => ?_)
            clear hK K
            refine wpAnyH_done (by kernel_rfl) ?_ _
            refine NoPanic.normal ?_
            go_wp2_with fail
            go_meet
            case rel => exact ⟨p4, p5, ta1, da1, ta3, da3, tc1, dc1, tc3, dc3, rfl, rfl, HM.out.done tc1 dc1 tc3 dc3⟩
        · go_simp
          have bb : Below x2.heap.size x2 (x2.alloc (.cells zeroCellsR 46)) := (Below.refl _ _).alloc (Nat.le_refl _) _
          have kk : BlkR (x2.alloc (.cells zeroCellsR 46)) x2.heap.size zeroCellsR 46 := heap_alloc_new x2 _
          obtain ⟨x5, HW5⟩ : ∃ y, Hid (y = x2.alloc (.cells zeroCellsR 46)) := ⟨_, rfl⟩
          obtain ⟨p5, hp5⟩ : ∃ y, y = x2.heap.size := ⟨_, rfl⟩
          rw [show x2.alloc (.cells #[.int .i64 0, .int .i64 0, .int .u64 0, .int .u64 0, .int .u32 0, .int .i64 0, .int .i64 0, .string ⟨#[]⟩, .string ⟨#[]⟩, .int .i64 0, .int .i64 0, .string ⟨#[]⟩, .int .u32 0, .int .i64 0, .bool false, .slice none 0 0, .slice none 0 0] 46) = x5 from HW5.out.symm, ← hp5]
          rw [← HW5.out] at bb kk
          rw [← hp5] at kk
          have B5 : Hid (Below w.heap.size w x5) := below_chain B2.out bb
          have P5 : Hid (BlkR x5 p5 zeroCellsR 46 ∧ w.heap.size + 2 ≤ p5) := ⟨kk, by have := (Array.getElem?_eq_some_iff.1 hS2.2).1; omega⟩
          have O15 : Hid (OffR a.txs.length ta1 p5 ∧ OffR a.dirty.length da1 p5) := ⟨hp5 ▸ off_t T2c1.out.1, hp5 ▸ off_d T2c1.out.2⟩
          have O35 : Hid (OffR b.txs.length ta3 p5 ∧ OffR b.dirty.length da3 p5) := ⟨hp5 ▸ off_t T2.out.1, hp5 ▸ off_d T2.out.2⟩
          clear HW5 hp5 kk
          have T5c1 : Hid (TxsAt x5 ta1 a.txs ∧ DisAt x5 da1 a.dirty) := ⟨T2c1.out.1.below bb, T2c1.out.2.below bb⟩
          have T5c3 : Hid (TxsAt x5 ta3 b.txs ∧ DisAt x5 da3 b.dirty) := ⟨T2.out.1.below bb, T2.out.2.below bb⟩
          refine hK.out _ _ ⟨(bb.block _ (Array.getElem?_eq_some_iff.1 hS2.1).1).trans hS2.1, (bb.block _ (Array.getElem?_eq_some_iff.1 hS2.2).1).trans hS2.2⟩ (fun hS5 => ?_)
          clear hK K bb
          try simp only [Act.put, List.setIfInBounds_toArray, List.set_cons_zero, List.set_cons_succ]
          refine wpAnyH_ready (rs := [4]) (by kernel_rfl) (by simp) ?_
          refine (AllReadyH.cons (i := 4) (by simp only [List.getElem?_toArray, List.getElem?_cons_succ, List.getElem?_cons_zero]; rfl) (fun K hK => ?_) AllReadyH.nil)
          · go_simp
            have bb : Below x5.heap.size x5 (x5.alloc (.cells zeroCellsR 46)) := (Below.refl _ _).alloc (Nat.le_refl _) _
            have kk : BlkR (x5.alloc (.cells zeroCellsR 46)) x5.heap.size zeroCellsR 46 := heap_alloc_new x5 _
            obtain ⟨x6, HW6⟩ : ∃ y, Hid (y = x5.alloc (.cells zeroCellsR 46)) := ⟨_, rfl⟩
            obtain ⟨p4, hp6⟩ : ∃ y, y = x5.heap.size := ⟨_, rfl⟩
            rw [show x5.alloc (.cells #[.int .i64 0, .int .i64 0, .int .u64 0, .int .u64 0, .int .u32 0, .int .i64 0, .int .i64 0, .string ⟨#[]⟩, .string ⟨#[]⟩, .int .i64 0, .int .i64 0, .string ⟨#[]⟩, .int .u32 0, .int .i64 0, .bool false, .slice none 0 0, .slice none 0 0] 46) = x6 from HW6.out.symm, ← hp6]
            rw [← HW6.out] at bb kk
            rw [← hp6] at kk
            have B6 : Hid (Below w.heap.size w x6) := below_chain B5.out bb
            have P6 : Hid (BlkR x6 p4 zeroCellsR 46 ∧ w.heap.size + 2 ≤ p4) := ⟨kk, by have := (Array.getElem?_eq_some_iff.1 hS5.2).1; omega⟩
            have O14 : Hid (OffR a.txs.length ta1 p4 ∧ OffR a.dirty.length da1 p4) := ⟨hp6 ▸ off_t T5c1.out.1, hp6 ▸ off_d T5c1.out.2⟩
            have O34 : Hid (OffR b.txs.length ta3 p4 ∧ OffR b.dirty.length da3 p4) := ⟨hp6 ▸ off_t T5c3.out.1, hp6 ▸ off_d T5c3.out.2⟩
            have NE : Hid (p4 ≠ p5) := by have := P5.out.1.lt; show p4 ≠ p5; omega
            clear HW6 hp6 kk
            have T6c1 : Hid (TxsAt x6 ta1 a.txs ∧ DisAt x6 da1 a.dirty) := ⟨T5c1.out.1.below bb, T5c1.out.2.below bb⟩
            have T6c3 : Hid (TxsAt x6 ta3 b.txs ∧ DisAt x6 da3 b.dirty) := ⟨T5c3.out.1.below bb, T5c3.out.2.below bb⟩
            have P6a5 : Hid (BlkR x6 p5 zeroCellsR 46 ∧ w.heap.size + 2 ≤ p5) := ⟨(bb.block _ P5.out.1.lt).trans P5.out.1, P5.out.2⟩
            refine hK.out _ _ ⟨(bb.block _ (Array.getElem?_eq_some_iff.1 hS5.1).1).trans hS5.1, (bb.block _ (Array.getElem?_eq_some_iff.1 hS5.2).1).trans hS5.2⟩ (fun hS6 => ?_)
            clear hK K bb
            try simp only [Act.put, List.setIfInBounds_toArray, List.set_cons_zero, List.set_cons_succ]
            have HM : Hid (PairMid w x6 a b (a.cells ta da tc dc) (b.cells tb db uc vc) p4 p5 ta1 da1 ta3 da3) := ⟨B6.out, hS6.1, hS6.2, P6.out.1, P6a5.out.1, P6.out.2, P6a5.out.2, NE.out, ⟨T6c1.out.1, O14.out.1, O15.out.1⟩, ⟨T6c1.out.2, O14.out.2, O15.out.2⟩, ⟨T6c3.out.1, O34.out.1, O35.out.1⟩, ⟨T6c3.out.2, O34.out.2, O35.out.2⟩⟩
            refine wpAnyH_ready (rs := [6]) (by kernel_rfl) (by simp) ?_
            refine AllReadyH.cons (i := 6) (by simp only [List.getElem?_toArray, List.getElem?_cons_succ, List.getElem?_cons_zero]; rfl) (fun K hK => ?_) AllReadyH.nil
            refine step_storeRow (by rfl) _ _ _ (by rfl) (by rfl) p4 (by rfl) (a.cells ta1 da1 tc1 dc1) zeroCellsR (by rfl) _ HM.out.xa (by kernel_rfl) (by rfl) (ref_one a _ _ _ _ _ _) ?_
            refine hK.out _ _ ⟨(setRow_other _ _ _ _ (by have := HM.out.hp; omega)).trans HM.out.pa, (setRow_other _ _ _ _ (by have := HM.out.hp; omega)).trans HM.out.pb⟩ (fun hZ1 => ?_)
            clear hK K
            refine wpAnyH_ready (rs := [7]) (by kernel_rfl) (by simp) ?_
            refine AllReadyH.cons (i := 7) (by simp only [List.getElem?_toArray, List.getElem?_cons_succ, List.getElem?_cons_zero]; rfl) (fun K hK => ?_) AllReadyH.nil
            refine step_storeRow (by rfl) _ _ _ (by rfl) (by rfl) p5 (by rfl) (b.cells ta3 da3 tc3 dc3) zeroCellsR (by rfl) _ ((setRow_other _ _ _ _ (Ne.symm HM.out.ne)).trans HM.out.xb) (by kernel_rfl) (by rfl) (ref_one b _ _ _ _ _ _) ?_
            refine hK.out _ _ ⟨(setRow_other _ _ _ _ (by have := HM.out.hq; omega)).trans hZ1.1, (setRow_other _ _ _ _ (by have := HM.out.hq; omega)).trans hZ1.2⟩ (fun hZ2 => ?_)
            clear hK K
            refine wpAnyH_done (by kernel_rfl) ?_ _
            refine NoPanic.normal ?_
            go_wp2_with fail
            go_meet
            case rel => exact ⟨p4, p5, ta1, da1, ta3, da3, tc1, dc1, tc3, dc3, rfl, rfl, HM.out.done tc1 dc1 tc3 dc3⟩
      · go_simp
        have bb : Below x1.heap.size x1 (x1.alloc (.cells zeroCellsR 46)) := (Below.refl _ _).alloc (Nat.le_refl _) _
        have kk : BlkR (x1.alloc (.cells zeroCellsR 46)) x1.heap.size zeroCellsR 46 := heap_alloc_new x1 _
        obtain ⟨x7, HW7⟩ : ∃ y, Hid (y = x1.alloc (.cells zeroCellsR 46)) := ⟨_, rfl⟩
        obtain ⟨p4, hp7⟩ : ∃ y, y = x1.heap.size := ⟨_, rfl⟩
        rw [show x1.alloc (.cells #[.int .i64 0, .int .i64 0, .int .u64 0, .int .u64 0, .int .u32 0, .int .i64 0, .int .i64 0, .string ⟨#[]⟩, .string ⟨#[]⟩, .int .i64 0, .int .i64 0, .string ⟨#[]⟩, .int .u32 0, .int .i64 0, .bool false, .slice none 0 0, .slice none 0 0] 46) = x7 from HW7.out.symm, ← hp7]
        rw [← HW7.out] at bb kk
        rw [← hp7] at kk
        have B7 : Hid (Below w.heap.size w x7) := below_chain B1.out bb
        have P7 : Hid (BlkR x7 p4 zeroCellsR 46 ∧ w.heap.size + 2 ≤ p4) := ⟨kk, by have := (Array.getElem?_eq_some_iff.1 hS1.2).1; omega⟩
        have O14 : Hid (OffR a.txs.length ta1 p4 ∧ OffR a.dirty.length da1 p4) := ⟨hp7 ▸ off_t T1.out.1, hp7 ▸ off_d T1.out.2⟩
        clear HW7 hp7 kk
        have T7c1 : Hid (TxsAt x7 ta1 a.txs ∧ DisAt x7 da1 a.dirty) := ⟨T1.out.1.below bb, T1.out.2.below bb⟩
        refine hK.out _ _ ⟨(bb.block _ (Array.getElem?_eq_some_iff.1 hS1.1).1).trans hS1.1, (bb.block _ (Array.getElem?_eq_some_iff.1 hS1.2).1).trans hS1.2⟩ (fun hS7 => ?_)
        clear hK K bb
        try simp only [Act.put, List.setIfInBounds_toArray, List.set_cons_zero, List.set_cons_succ]
        refine wpAnyH_ready (rs := [3, 5]) (by kernel_rfl) (by simp) ?_
        refine (AllReadyH.cons (i := 3) (by simp only [List.getElem?_toArray, List.getElem?_cons_succ, List.getElem?_cons_zero]; rfl) (fun K hK => ?_) (AllReadyH.cons (i := 5) (by simp only [List.getElem?_toArray, List.getElem?_cons_succ, List.getElem?_cons_zero]; rfl) (fun K hK => ?_) AllReadyH.nil))
        · go_simp
          refine (HB.out x7 B7.out).mono ?_
          rintro e x8 ⟨ta3, da3, tc3, dc3, rfl, bb, t1, t2, n1, n2⟩
          have B8 : Hid (Below w.heap.size w x8) := below_chain B7.out bb
          have T8 : Hid (TxsAt x8 ta3 b.txs ∧ DisAt x8 da3 b.dirty) := ⟨t1, t2⟩
          have O34 : Hid (OffR b.txs.length ta3 p4 ∧ OffR b.dirty.length da3 p4) := ⟨off_new n1 P7.out.1.lt, off_new n2 P7.out.1.lt⟩
          have T8c1 : Hid (TxsAt x8 ta1 a.txs ∧ DisAt x8 da1 a.dirty) := ⟨T7c1.out.1.below bb, T7c1.out.2.below bb⟩
          have P8a4 : Hid (BlkR x8 p4 zeroCellsR 46 ∧ w.heap.size + 2 ≤ p4) := ⟨(bb.block _ P7.out.1.lt).trans P7.out.1, P7.out.2⟩
          refine hK.out _ _ ⟨(bb.block _ (Array.getElem?_eq_some_iff.1 hS7.1).1).trans hS7.1, (bb.block _ (Array.getElem?_eq_some_iff.1 hS7.2).1).trans hS7.2⟩ (fun hS8 => ?_)
          clear hK K bb
          try simp only [Act.put, List.setIfInBounds_toArray, List.set_cons_zero, List.set_cons_succ]
          refine wpAnyH_ready (rs := [5]) (by kernel_rfl) (by simp) ?_
          refine (AllReadyH.cons (i := 5) (by simp only [List.getElem?_toArray, List.getElem?_cons_succ, List.getElem?_cons_zero]; rfl) (fun K hK => ?_) AllReadyH.nil)
          · go_simp
            have bb : Below x8.heap.size x8 (x8.alloc (.cells zeroCellsR 46)) := (Below.refl _ _).alloc (Nat.le_refl _) _
            have kk : BlkR (x8.alloc (.cells zeroCellsR 46)) x8.heap.size zeroCellsR 46 := heap_alloc_new x8 _
            obtain ⟨x9, HW9⟩ : ∃ y, Hid (y = x8.alloc (.cells zeroCellsR 46)) := ⟨_, rfl⟩
            obtain ⟨p5, hp9⟩ : ∃ y, y = x8.heap.size := ⟨_, rfl⟩
            rw [show x8.alloc (.cells #[.int .i64 0, .int .i64 0, .int .u64 0, .int .u64 0, .int .u32 0, .int .i64 0, .int .i64 0, .string ⟨#[]⟩, .string ⟨#[]⟩, .int .i64 0, .int .i64 0, .string ⟨#[]⟩, .int .u32 0, .int .i64 0, .bool false, .slice none 0 0, .slice none 0 0] 46) = x9 from HW9.out.symm, ← hp9]
            rw [← HW9.out] at bb kk
            rw [← hp9] at kk
            have B9 : Hid (Below w.heap.size w x9) := below_chain B8.out bb
            have P9 : Hid (BlkR x9 p5 zeroCellsR 46 ∧ w.heap.size + 2 ≤ p5) := ⟨kk, by have := (Array.getElem?_eq_some_iff.1 hS8.2).1; omega⟩
            have O15 : Hid (OffR a.txs.length ta1 p5 ∧ OffR a.dirty.length da1 p5) := ⟨hp9 ▸ off_t T8c1.out.1, hp9 ▸ off_d T8c1.out.2⟩
            have O35 : Hid (OffR b.txs.length ta3 p5 ∧ OffR b.dirty.length da3 p5) := ⟨hp9 ▸ off_t T8.out.1, hp9 ▸ off_d T8.out.2⟩
            have NE : Hid (p4 ≠ p5) := by have := P8a4.out.1.lt; show p4 ≠ p5; omega
            clear HW9 hp9 kk
            have T9c1 : Hid (TxsAt x9 ta1 a.txs ∧ DisAt x9 da1 a.dirty) := ⟨T8c1.out.1.below bb, T8c1.out.2.below bb⟩
            have T9c3 : Hid (TxsAt x9 ta3 b.txs ∧ DisAt x9 da3 b.dirty) := ⟨T8.out.1.below bb, T8.out.2.below bb⟩
            have P9a4 : Hid (BlkR x9 p4 zeroCellsR 46 ∧ w.heap.size + 2 ≤ p4) := ⟨(bb.block _ P8a4.out.1.lt).trans P8a4.out.1, P8a4.out.2⟩
            refine hK.out _ _ ⟨(bb.block _ (Array.getElem?_eq_some_iff.1 hS8.1).1).trans hS8.1, (bb.block _ (Array.getElem?_eq_some_iff.1 hS8.2).1).trans hS8.2⟩ (fun hS9 => ?_)
            clear hK K bb
            try simp only [Act.put, List.setIfInBounds_toArray, List.set_cons_zero, List.set_cons_succ]
            have HM : Hid (PairMid w x9 a b (a.cells ta da tc dc) (b.cells tb db uc vc) p4 p5 ta1 da1 ta3 da3) := ⟨B9.out, hS9.1, hS9.2, P9a4.out.1, P9.out.1, P9a4.out.2, P9.out.2, NE.out, ⟨T9c1.out.1, O14.out.1, O15.out.1⟩, ⟨T9c1.out.2, O14.out.2, O15.out.2⟩, ⟨T9c3.out.1, O34.out.1, O35.out.1⟩, ⟨T9c3.out.2, O34.out.2, O35.out.2⟩⟩
            refine wpAnyH_ready (rs := [6]) (by kernel_rfl) (by simp) ?_
            refine AllReadyH.cons (i := 6) (by simp only [List.getElem?_toArray, List.getElem?_cons_succ, List.getElem?_cons_zero]; rfl) (fun K hK => ?_) AllReadyH.nil
            refine step_storeRow (by rfl) _ _ _ (by rfl) (by rfl) p4 (by rfl) (a.cells ta1 da1 tc1 dc1) zeroCellsR (by rfl) _ HM.out.xa (by kernel_rfl) (by rfl) (ref_one a _ _ _ _ _ _) ?_
            refine hK.out _ _ ⟨(setRow_other _ _ _ _ (by have := HM.out.hp; omega)).trans HM.out.pa, (setRow_other _ _ _ _ (by have := HM.out.hp; omega)).trans HM.out.pb⟩ (fun hZ1 => ?_)
            clear hK K
            refine wpAnyH_ready (rs := [7]) (by kernel_rfl) (by simp) ?_
            refine AllReadyH.cons (i := 7) (by simp only [List.getElem?_toArray, List.getElem?_cons_succ, List.getElem?_cons_zero]; rfl) (fun K hK => ?_) AllReadyH.nil
            refine step_storeRow (by rfl) _ _ _ (by rfl) (by rfl) p5 (by rfl) (b.cells ta3 da3 tc3 dc3) zeroCellsR (by rfl) _ ((setRow_other _ _ _ _ (Ne.symm HM.out.ne)).trans HM.out.xb) (by kernel_rfl) (by rfl) (ref_one b _ _ _ _ _ _) ?_
            refine hK.out _ _ ⟨(setRow_other _ _ _ _ (by have := HM.out.hq; omega)).trans hZ1.1, (setRow_other _ _ _ _ (by have := HM.out.hq; omega)).trans hZ1.2⟩ (fun hZ2 => ?_)
            clear hK K
            refine wpAnyH_done (by kernel_rfl) ?_ _
            refine NoPanic.normal ?_
            go_wp2_with fail
            go_meet
            case rel => exact ⟨p4, p5, ta1, da1, ta3, da3, tc1, dc1, tc3, dc3, rfl, rfl, HM.out.done tc1 dc1 tc3 dc3⟩
        · go_simp
          have bb : Below x7.heap.size x7 (x7.alloc (.cells zeroCellsR 46)) := (Below.refl _ _).alloc (Nat.le_refl _) _
          have kk : BlkR (x7.alloc (.cells zeroCellsR 46)) x7.heap.size zeroCellsR 46 := heap_alloc_new x7 _
          obtain ⟨x10, HW10⟩ : ∃ y, Hid (y = x7.alloc (.cells zeroCellsR 46)) := ⟨_, rfl⟩
          obtain ⟨p5, hp10⟩ : ∃ y, y = x7.heap.size := ⟨_, rfl⟩
          rw [show x7.alloc (.cells #[.int .i64 0, .int .i64 0, .int .u64 0, .int .u64 0, .int .u32 0, .int .i64 0, .int .i64 0, .string ⟨#[]⟩, .string ⟨#[]⟩, .int .i64 0, .int .i64 0, .string ⟨#[]⟩, .int .u32 0, .int .i64 0, .bool false, .slice none 0 0, .slice none 0 0] 46) = x10 from HW10.out.symm, ← hp10]
          rw [← HW10.out] at bb kk
          rw [← hp10] at kk
          have B10 : Hid (Below w.heap.size w x10) := below_chain B7.out bb
          have P10 : Hid (BlkR x10 p5 zeroCellsR 46 ∧ w.heap.size + 2 ≤ p5) := ⟨kk, by have := (Array.getElem?_eq_some_iff.1 hS7.2).1; omega⟩
          have O15 : Hid (OffR a.txs.length ta1 p5 ∧ OffR a.dirty.length da1 p5) := ⟨hp10 ▸ off_t T7c1.out.1, hp10 ▸ off_d T7c1.out.2⟩
          have NE : Hid (p4 ≠ p5) := by have := P7.out.1.lt; show p4 ≠ p5; omega
          clear HW10 hp10 kk
          have T10c1 : Hid (TxsAt x10 ta1 a.txs ∧ DisAt x10 da1 a.dirty) := ⟨T7c1.out.1.below bb, T7c1.out.2.below bb⟩
          have P10a4 : Hid (BlkR x10 p4 zeroCellsR 46 ∧ w.heap.size + 2 ≤ p4) := ⟨(bb.block _ P7.out.1.lt).trans P7.out.1, P7.out.2⟩
          refine hK.out _ _ ⟨(bb.block _ (Array.getElem?_eq_some_iff.1 hS7.1).1).trans hS7.1, (bb.block _ (Array.getElem?_eq_some_iff.1 hS7.2).1).trans hS7.2⟩ (fun hS10 => ?_)
          clear hK K bb
          try simp only [Act.put, List.setIfInBounds_toArray, List.set_cons_zero, List.set_cons_succ]
          refine wpAnyH_ready (rs := [3]) (by kernel_rfl) (by simp) ?_
          refine (AllReadyH.cons (i := 3) (by simp only [List.getElem?_toArray, List.getElem?_cons_succ, List.getElem?_cons_zero]; rfl) (fun K hK => ?_) AllReadyH.nil)
          · go_simp
            refine (HB.out x10 B10.out).mono ?_
            rintro e x11 ⟨ta3, da3, tc3, dc3, rfl, bb, t1, t2, n1, n2⟩
            have B11 : Hid (Below w.heap.size w x11) := below_chain B10.out bb
            have T11 : Hid (TxsAt x11 ta3 b.txs ∧ DisAt x11 da3 b.dirty) := ⟨t1, t2⟩
            have O34 : Hid (OffR b.txs.length ta3 p4 ∧ OffR b.dirty.length da3 p4) := ⟨off_new n1 P10a4.out.1.lt, off_new n2 P10a4.out.1.lt⟩
            have O35 : Hid (OffR b.txs.length ta3 p5 ∧ OffR b.dirty.length da3 p5) := ⟨off_new n1 P10.out.1.lt, off_new n2 P10.out.1.lt⟩
            have T11c1 : Hid (TxsAt x11 ta1 a.txs ∧ DisAt x11 da1 a.dirty) := ⟨T10c1.out.1.below bb, T10c1.out.2.below bb⟩
            have P11a4 : Hid (BlkR x11 p4 zeroCellsR 46 ∧ w.heap.size + 2 ≤ p4) := ⟨(bb.block _ P10a4.out.1.lt).trans P10a4.out.1, P10a4.out.2⟩
            have P11a5 : Hid (BlkR x11 p5 zeroCellsR 46 ∧ w.heap.size + 2 ≤ p5) := ⟨(bb.block _ P10.out.1.lt).trans P10.out.1, P10.out.2⟩
            refine hK.out _ _ ⟨(bb.block _ (Array.getElem?_eq_some_iff.1 hS10.1).1).trans hS10.1, (bb.block _ (Array.getElem?_eq_some_iff.1 hS10.2).1).trans hS10.2⟩ (fun hS11 => ?_)
            clear hK K bb
            try simp only [Act.put, List.setIfInBounds_toArray, List.set_cons_zero, List.set_cons_succ]
            have HM : Hid (PairMid w x11 a b (a.cells ta da tc dc) (b.cells tb db uc vc) p4 p5 ta1 da1 ta3 da3) := ⟨B11.out, hS11.1, hS11.2, P11a4.out.1, P11a5.out.1, P11a4.out.2, P11a5.out.2, NE.out, ⟨T11c1.out.1, O14.out.1, O15.out.1⟩, ⟨T11c1.out.2, O14.out.2, O15.out.2⟩, ⟨T11.out.1, O34.out.1, O35.out.1⟩, ⟨T11.out.2, O34.out.2, O35.out.2⟩⟩
            refine wpAnyH_ready (rs := [6]) (by kernel_rfl) (by simp) ?_
            refine AllReadyH.cons (i := 6) (by simp only [List.getElem?_toArray, List.getElem?_cons_succ, List.getElem?_cons_zero]; rfl) (fun K hK => ?_) AllReadyH.nil
            refine step_storeRow (by rfl) _ _ _ (by rfl) (by rfl) p4 (by rfl) (a.cells ta1 da1 tc1 dc1) zeroCellsR (by rfl) _ HM.out.xa (by kernel_rfl) (by rfl) (ref_one a _ _ _ _ _ _) ?_
            refine hK.out _ _ ⟨(setRow_other _ _ _ _ (by have := HM.out.hp; omega)).trans HM.out.pa, (setRow_other _ _ _ _ (by have := HM.out.hp; omega)).trans HM.out.pb⟩ (fun hZ1 => ?_)
            clear hK K
            refine wpAnyH_ready (rs := [7]) (by kernel_rfl) (by simp) ?_
            refine AllReadyH.cons (i := 7) (by simp only [List.getElem?_toArray, List.getElem?_cons_succ, List.getElem?_cons_zero]; rfl) (fun K hK => ?_) AllReadyH.nil
            refine step_storeRow (by rfl) _ _ _ (by rfl) (by rfl) p5 (by rfl) (b.cells ta3 da3 tc3 dc3) zeroCellsR (by rfl) _ ((setRow_other _ _ _ _ (Ne.symm HM.out.ne)).trans HM.out.xb) (by kernel_rfl) (by rfl) (ref_one b _ _ _ _ _ _) ?_
            refine hK.out _ _ ⟨(setRow_other _ _ _ _ (by have := HM.out.hq; omega)).trans hZ1.1, (setRow_other _ _ _ _ (by have := HM.out.hq; omega)).trans hZ1.2⟩ (fun hZ2 => ?_)
            clear hK K
            refine wpAnyH_done (by kernel_rfl) ?_ _
            refine NoPanic.normal ?_
            go_wp2_with fail
            go_meet
            case rel => exact ⟨p4, p5, ta1, da1, ta3, da3, tc1, dc1, tc3, dc3, rfl, rfl, HM.out.done tc1 dc1 tc3 dc3⟩
      · go_simp
        have bb : Below x1.heap.size x1 (x1.alloc (.cells zeroCellsR 46)) := (Below.refl _ _).alloc (Nat.le_refl _) _
        have kk : BlkR (x1.alloc (.cells zeroCellsR 46)) x1.heap.size zeroCellsR 46 := heap_alloc_new x1 _
        obtain ⟨x12, HW12⟩ : ∃ y, Hid (y = x1.alloc (.cells zeroCellsR 46)) := ⟨_, rfl⟩
        obtain ⟨p5, hp12⟩ : ∃ y, y = x1.heap.size := ⟨_, rfl⟩
        rw [show x1.alloc (.cells #[.int .i64 0, .int .i64 0, .int .u64 0, .int .u64 0, .int .u32 0, .int .i64 0, .int .i64 0, .string ⟨#[]⟩, .string ⟨#[]⟩, .int .i64 0, .int .i64 0, .string ⟨#[]⟩, .int .u32 0, .int .i64 0, .bool false, .slice none 0 0, .slice none 0 0] 46) = x12 from HW12.out.symm, ← hp12]
        rw [← HW12.out] at bb kk
        rw [← hp12] at kk
        have B12 : Hid (Below w.heap.size w x12) := below_chain B1.out bb
        have P12 : Hid (BlkR x12 p5 zeroCellsR 46 ∧ w.heap.size + 2 ≤ p5) := ⟨kk, by have := (Array.getElem?_eq_some_iff.1 hS1.2).1; omega⟩
        have O15 : Hid (OffR a.txs.length ta1 p5 ∧ OffR a.dirty.length da1 p5) := ⟨hp12 ▸ off_t T1.out.1, hp12 ▸ off_d T1.out.2⟩
        clear HW12 hp12 kk
        have T12c1 : Hid (TxsAt x12 ta1 a.txs ∧ DisAt x12 da1 a.dirty) := ⟨T1.out.1.below bb, T1.out.2.below bb⟩
        refine hK.out _ _ ⟨(bb.block _ (Array.getElem?_eq_some_iff.1 hS1.1).1).trans hS1.1, (bb.block _ (Array.getElem?_eq_some_iff.1 hS1.2).1).trans hS1.2⟩ (fun hS12 => ?_)
        clear hK K bb
        try simp only [Act.put, List.setIfInBounds_toArray, List.set_cons_zero, List.set_cons_succ]
        refine wpAnyH_ready (rs := [3, 4]) (by kernel_rfl) (by simp) ?_
        refine (AllReadyH.cons (i := 3) (by simp only [List.getElem?_toArray, List.getElem?_cons_succ, List.getElem?_cons_zero]; rfl) (fun K hK => ?_) (AllReadyH.cons (i := 4) (by simp only [List.getElem?_toArray, List.getElem?_cons_succ, List.getElem?_cons_zero]; rfl) (fun K hK => ?_) AllReadyH.nil))
        · go_simp
          refine (HB.out x12 B12.out).mono ?_
          rintro e x13 ⟨ta3, da3, tc3, dc3, rfl, bb, t1, t2, n1, n2⟩
          have B13 : Hid (Below w.heap.size w x13) := below_chain B12.out bb
          have T13 : Hid (TxsAt x13 ta3 b.txs ∧ DisAt x13 da3 b.dirty) := ⟨t1, t2⟩
          have O35 : Hid (OffR b.txs.length ta3 p5 ∧ OffR b.dirty.length da3 p5) := ⟨off_new n1 P12.out.1.lt, off_new n2 P12.out.1.lt⟩
          have T13c1 : Hid (TxsAt x13 ta1 a.txs ∧ DisAt x13 da1 a.dirty) := ⟨T12c1.out.1.below bb, T12c1.out.2.below bb⟩
          have P13a5 : Hid (BlkR x13 p5 zeroCellsR 46 ∧ w.heap.size + 2 ≤ p5) := ⟨(bb.block _ P12.out.1.lt).trans P12.out.1, P12.out.2⟩
          refine hK.out _ _ ⟨(bb.block _ (Array.getElem?_eq_some_iff.1 hS12.1).1).trans hS12.1, (bb.block _ (Array.getElem?_eq_some_iff.1 hS12.2).1).trans hS12.2⟩ (fun hS13 => ?_)
          clear hK K bb
          try simp only [Act.put, List.setIfInBounds_toArray, List.set_cons_zero, List.set_cons_succ]
          refine wpAnyH_ready (rs := [4]) (by kernel_rfl) (by simp) ?_
          refine (AllReadyH.cons (i := 4) (by simp only [List.getElem?_toArray, List.getElem?_cons_succ, List.getElem?_cons_zero]; rfl) (fun K hK => ?_) AllReadyH.nil)
          · go_simp
            have bb : Below x13.heap.size x13 (x13.alloc (.cells zeroCellsR 46)) := (Below.refl _ _).alloc (Nat.le_refl _) _
            have kk : BlkR (x13.alloc (.cells zeroCellsR 46)) x13.heap.size zeroCellsR 46 := heap_alloc_new x13 _
            obtain ⟨x14, HW14⟩ : ∃ y, Hid (y = x13.alloc (.cells zeroCellsR 46)) := ⟨_, rfl⟩
            obtain ⟨p4, hp14⟩ : ∃ y, y = x13.heap.size := ⟨_, rfl⟩
            rw [show x13.alloc (.cells #[.int .i64 0, .int .i64 0, .int .u64 0, .int .u64 0, .int .u32 0, .int .i64 0, .int .i64 0, .string ⟨#[]⟩, .string ⟨#[]⟩, .int .i64 0, .int .i64 0, .string ⟨#[]⟩, .int .u32 0, .int .i64 0, .bool false, .slice none 0 0, .slice none 0 0] 46) = x14 from HW14.out.symm, ← hp14]
            rw [← HW14.out] at bb kk
            rw [← hp14] at kk
            have B14 : Hid (Below w.heap.size w x14) := below_chain B13.out bb
            have P14 : Hid (BlkR x14 p4 zeroCellsR 46 ∧ w.heap.size + 2 ≤ p4) := ⟨kk, by have := (Array.getElem?_eq_some_iff.1 hS13.2).1; omega⟩
            have O14 : Hid (OffR a.txs.length ta1 p4 ∧ OffR a.dirty.length da1 p4) := ⟨hp14 ▸ off_t T13c1.out.1, hp14 ▸ off_d T13c1.out.2⟩
            have O34 : Hid (OffR b.txs.length ta3 p4 ∧ OffR b.dirty.length da3 p4) := ⟨hp14 ▸ off_t T13.out.1, hp14 ▸ off_d T13.out.2⟩
            have NE : Hid (p4 ≠ p5) := by have := P13a5.out.1.lt; show p4 ≠ p5; omega
            clear HW14 hp14 kk
            have T14c1 : Hid (TxsAt x14 ta1 a.txs ∧ DisAt x14 da1 a.dirty) := ⟨T13c1.out.1.below bb, T13c1.out.2.below bb⟩
            have T14c3 : Hid (TxsAt x14 ta3 b.txs ∧ DisAt x14 da3 b.dirty) := ⟨T13.out.1.below bb, T13.out.2.below bb⟩
            have P14a5 : Hid (BlkR x14 p5 zeroCellsR 46 ∧ w.heap.size + 2 ≤ p5) := ⟨(bb.block _ P13a5.out.1.lt).trans P13a5.out.1, P13a5.out.2⟩
            refine hK.out _ _ ⟨(bb.block _ (Array.getElem?_eq_some_iff.1 hS13.1).1).trans hS13.1, (bb.block _ (Array.getElem?_eq_some_iff.1 hS13.2).1).trans hS13.2⟩ (fun hS14 => ?_)
            clear hK K bb
            try simp only [Act.put, List.setIfInBounds_toArray, List.set_cons_zero, List.set_cons_succ]
            have HM : Hid (PairMid w x14 a b (a.cells ta da tc dc) (b.cells tb db uc vc) p4 p5 ta1 da1 ta3 da3) := ⟨B14.out, hS14.1, hS14.2, P14.out.1, P14a5.out.1, P14.out.2, P14a5.out.2, NE.out, ⟨T14c1.out.1, O14.out.1, O15.out.1⟩, ⟨T14c1.out.2, O14.out.2, O15.out.2⟩, ⟨T14c3.out.1, O34.out.1, O35.out.1⟩, ⟨T14c3.out.2, O34.out.2, O35.out.2⟩⟩
            refine wpAnyH_ready (rs := [6]) (by kernel_rfl) (by simp) ?_
            refine AllReadyH.cons (i := 6) (by simp only [List.getElem?_toArray, List.getElem?_cons_succ, List.getElem?_cons_zero]; rfl) (fun K hK => ?_) AllReadyH.nil
            refine step_storeRow (by rfl) _ _ _ (by rfl) (by rfl) p4 (by rfl) (a.cells ta1 da1 tc1 dc1) zeroCellsR (by rfl) _ HM.out.xa (by kernel_rfl) (by rfl) (ref_one a _ _ _ _ _ _) ?_
            refine hK.out _ _ ⟨(setRow_other _ _ _ _ (by have := HM.out.hp; omega)).trans HM.out.pa, (setRow_other _ _ _ _ (by have := HM.out.hp; omega)).trans HM.out.pb⟩ (fun hZ1 => ?_)
            clear hK K
            refine wpAnyH_ready (rs := [7]) (by kernel_rfl) (by simp) ?_
            refine AllReadyH.cons (i := 7) (by simp only [List.getElem?_toArray, List.getElem?_cons_succ, List.getElem?_cons_zero]; rfl) (fun K hK => ?_) AllReadyH.nil
            refine step_storeRow (by rfl) _ _ _ (by rfl) (by rfl) p5 (by rfl) (b.cells ta3 da3 tc3 dc3) zeroCellsR (by rfl) _ ((setRow_other _ _ _ _ (Ne.symm HM.out.ne)).trans HM.out.xb) (by kernel_rfl) (by rfl) (ref_one b _ _ _ _ _ _) ?_
            refine hK.out _ _ ⟨(setRow_other _ _ _ _ (by have := HM.out.hq; omega)).trans hZ1.1, (setRow_other _ _ _ _ (by have := HM.out.hq; omega)).trans hZ1.2⟩ (fun hZ2 => ?_)
            clear hK K
            refine wpAnyH_done (by kernel_rfl) ?_ _
            refine NoPanic.normal ?_
            go_wp2_with fail
            go_meet
            case rel => exact ⟨p4, p5, ta1, da1, ta3, da3, tc1, dc1, tc3, dc3, rfl, rfl, HM.out.done tc1 dc1 tc3 dc3⟩
        · go_simp
          have bb : Below x12.heap.size x12 (x12.alloc (.cells zeroCellsR 46)) := (Below.refl _ _).alloc (Nat.le_refl _) _
          have kk : BlkR (x12.alloc (.cells zeroCellsR 46)) x12.heap.size zeroCellsR 46 := heap_alloc_new x12 _
          obtain ⟨x15, HW15⟩ : ∃ y, Hid (y = x12.alloc (.cells zeroCellsR 46)) := ⟨_, rfl⟩
          obtain ⟨p4, hp15⟩ : ∃ y, y = x12.heap.size := ⟨_, rfl⟩
          rw [show x12.alloc (.cells #[.int .i64 0, .int .i64 0, .int .u64 0, .int .u64 0, .int .u32 0, .int .i64 0, .int .i64 0, .string ⟨#[]⟩, .string ⟨#[]⟩, .int .i64 0, .int .i64 0, .string ⟨#[]⟩, .int .u32 0, .int .i64 0, .bool false, .slice none 0 0, .slice none 0 0] 46) = x15 from HW15.out.symm, ← hp15]
          rw [← HW15.out] at bb kk
          rw [← hp15] at kk
          have B15 : Hid (Below w.heap.size w x15) := below_chain B12.out bb
          have P15 : Hid (BlkR x15 p4 zeroCellsR 46 ∧ w.heap.size + 2 ≤ p4) := ⟨kk, by have := (Array.getElem?_eq_some_iff.1 hS12.2).1; omega⟩
          have O14 : Hid (OffR a.txs.length ta1 p4 ∧ OffR a.dirty.length da1 p4) := ⟨hp15 ▸ off_t T12c1.out.1, hp15 ▸ off_d T12c1.out.2⟩
          have NE : Hid (p4 ≠ p5) := by have := P12.out.1.lt; show p4 ≠ p5; omega
          clear HW15 hp15 kk
          have T15c1 : Hid (TxsAt x15 ta1 a.txs ∧ DisAt x15 da1 a.dirty) := ⟨T12c1.out.1.below bb, T12c1.out.2.below bb⟩
          have P15a5 : Hid (BlkR x15 p5 zeroCellsR 46 ∧ w.heap.size + 2 ≤ p5) := ⟨(bb.block _ P12.out.1.lt).trans P12.out.1, P12.out.2⟩
          refine hK.out _ _ ⟨(bb.block _ (Array.getElem?_eq_some_iff.1 hS12.1).1).trans hS12.1, (bb.block _ (Array.getElem?_eq_some_iff.1 hS12.2).1).trans hS12.2⟩ (fun hS15 => ?_)
          clear hK K bb
          try simp only [Act.put, List.setIfInBounds_toArray, List.set_cons_zero, List.set_cons_succ]
          refine wpAnyH_ready (rs := [3]) (by kernel_rfl) (by simp) ?_
          refine (AllReadyH.cons (i := 3) (by simp only [List.getElem?_toArray, List.getElem?_cons_succ, List.getElem?_cons_zero]; rfl) (fun K hK => ?_) AllReadyH.nil)
          · go_simp
            refine (HB.out x15 B15.out).mono ?_
            rintro e x16 ⟨ta3, da3, tc3, dc3, rfl, bb, t1, t2, n1, n2⟩
            have B16 : Hid (Below w.heap.size w x16) := below_chain B15.out bb
            have T16 : Hid (TxsAt x16 ta3 b.txs ∧ DisAt x16 da3 b.dirty) := ⟨t1, t2⟩
            have O34 : Hid (OffR b.txs.length ta3 p4 ∧ OffR b.dirty.length da3 p4) := ⟨off_new n1 P15.out.1.lt, off_new n2 P15.out.1.lt⟩
            have O35 : Hid (OffR b.txs.length ta3 p5 ∧ OffR b.dirty.length da3 p5) := ⟨off_new n1 P15a5.out.1.lt, off_new n2 P15a5.out.1.lt⟩
            have T16c1 : Hid (TxsAt x16 ta1 a.txs ∧ DisAt x16 da1 a.dirty) := ⟨T15c1.out.1.below bb, T15c1.out.2.below bb⟩
            have P16a4 : Hid (BlkR x16 p4 zeroCellsR 46 ∧ w.heap.size + 2 ≤ p4) := ⟨(bb.block _ P15.out.1.lt).trans P15.out.1, P15.out.2⟩
            have P16a5 : Hid (BlkR x16 p5 zeroCellsR 46 ∧ w.heap.size + 2 ≤ p5) := ⟨(bb.block _ P15a5.out.1.lt).trans P15a5.out.1, P15a5.out.2⟩
            refine hK.out _ _ ⟨(bb.block _ (Array.getElem?_eq_some_iff.1 hS15.1).1).trans hS15.1, (bb.block _ (Array.getElem?_eq_some_iff.1 hS15.2).1).trans hS15.2⟩ (fun hS16 => ?_)
            clear hK K bb
            try simp only [Act.put, List.setIfInBounds_toArray, List.set_cons_zero, List.set_cons_succ]
            have HM : Hid (PairMid w x16 a b (a.cells ta da tc dc) (b.cells tb db uc vc) p4 p5 ta1 da1 ta3 da3) := ⟨B16.out, hS16.1, hS16.2, P16a4.out.1, P16a5.out.1, P16a4.out.2, P16a5.out.2, NE.out, ⟨T16c1.out.1, O14.out.1, O15.out.1⟩, ⟨T16c1.out.2, O14.out.2, O15.out.2⟩, ⟨T16.out.1, O34.out.1, O35.out.1⟩, ⟨T16.out.2, O34.out.2, O35.out.2⟩⟩
            refine wpAnyH_ready (rs := [6]) (by kernel_rfl) (by simp) ?_
            refine AllReadyH.cons (i := 6) (by simp only [List.getElem?_toArray, List.getElem?_cons_succ, List.getElem?_cons_zero]; rfl) (fun K hK => ?_) AllReadyH.nil
            refine step_storeRow (by rfl) _ _ _ (by rfl) (by rfl) p4 (by rfl) (a.cells ta1 da1 tc1 dc1) zeroCellsR (by rfl) _ HM.out.xa (by kernel_rfl) (by rfl) (ref_one a _ _ _ _ _ _) ?_
            refine hK.out _ _ ⟨(setRow_other _ _ _ _ (by have := HM.out.hp; omega)).trans HM.out.pa, (setRow_other _ _ _ _ (by have := HM.out.hp; omega)).trans HM.out.pb⟩ (fun hZ1 => ?_)
            clear hK K
            refine wpAnyH_ready (rs := [7]) (by kernel_rfl) (by simp) ?_
            refine AllReadyH.cons (i := 7) (by simp only [List.getElem?_toArray, List.getElem?_cons_succ, List.getElem?_cons_zero]; rfl) (fun K hK => ?_) AllReadyH.nil
            refine step_storeRow (by rfl) _ _ _ (by rfl) (by rfl) p5 (by rfl) (b.cells ta3 da3 tc3 dc3) zeroCellsR (by rfl) _ ((setRow_other _ _ _ _ (Ne.symm HM.out.ne)).trans HM.out.xb) (by kernel_rfl) (by rfl) (ref_one b _ _ _ _ _ _) ?_
            refine hK.out _ _ ⟨(setRow_other _ _ _ _ (by have := HM.out.hq; omega)).trans hZ1.1, (setRow_other _ _ _ _ (by have := HM.out.hq; omega)).trans hZ1.2⟩ (fun hZ2 => ?_)
            clear hK K
            refine wpAnyH_done (by kernel_rfl) ?_ _
            refine NoPanic.normal ?_
            go_wp2_with fail
            go_meet
            case rel => exact ⟨p4, p5, ta1, da1, ta3, da3, tc1, dc1, tc3, dc3, rfl, rfl, HM.out.done tc1 dc1 tc3 dc3⟩
    · go_simp
      have bb : Below x0.heap.size x0 (x0.alloc (.cells zeroCellsR 46)) := (Below.refl _ _).alloc (Nat.le_refl _) _
      have kk : BlkR (x0.alloc (.cells zeroCellsR 46)) x0.heap.size zeroCellsR 46 := heap_alloc_new x0 _
      obtain ⟨x17, HW17⟩ : ∃ y, Hid (y = x0.alloc (.cells zeroCellsR 46)) := ⟨_, rfl⟩
      obtain ⟨p4, hp17⟩ : ∃ y, y = x0.heap.size := ⟨_, rfl⟩
      rw [show x0.alloc (.cells #[.int .i64 0, .int .i64 0, .int .u64 0, .int .u64 0, .int .u32 0, .int .i64 0, .int .i64 0, .string ⟨#[]⟩, .string ⟨#[]⟩, .int .i64 0, .int .i64 0, .string ⟨#[]⟩, .int .u32 0, .int .i64 0, .bool false, .slice none 0 0, .slice none 0 0] 46) = x17 from HW17.out.symm, ← hp17]
      rw [← HW17.out] at bb kk
      rw [← hp17] at kk
      have B17 : Hid (Below w.heap.size w x17) := below_chain B0.out bb
      have P17 : Hid (BlkR x17 p4 zeroCellsR 46 ∧ w.heap.size + 2 ≤ p4) := ⟨kk, by have := (Array.getElem?_eq_some_iff.1 hS0.2).1; omega⟩
      clear HW17 hp17 kk
      refine hK.out _ _ ⟨(bb.block _ (Array.getElem?_eq_some_iff.1 hS0.1).1).trans hS0.1, (bb.block _ (Array.getElem?_eq_some_iff.1 hS0.2).1).trans hS0.2⟩ (fun hS17 => ?_)
      clear hK K bb
      try simp only [Act.put, List.setIfInBounds_toArray, List.set_cons_zero, List.set_cons_succ]
      refine wpAnyH_ready (rs := [1, 5]) (by kernel_rfl) (by simp) ?_
      refine (AllReadyH.cons (i := 1) (by simp only [List.getElem?_toArray, List.getElem?_cons_succ, List.getElem?_cons_zero]; rfl) (fun K hK => ?_) (AllReadyH.cons (i := 5) (by simp only [List.getElem?_toArray, List.getElem?_cons_succ, List.getElem?_cons_zero]; rfl) (fun K hK => ?_) AllReadyH.nil))
      · go_simp
        refine (HA.out x17 B17.out).mono ?_
        rintro e x18 ⟨ta1, da1, tc1, dc1, rfl, bb, t1, t2, n1, n2⟩
        have B18 : Hid (Below w.heap.size w x18) := below_chain B17.out bb
        have T18 : Hid (TxsAt x18 ta1 a.txs ∧ DisAt x18 da1 a.dirty) := ⟨t1, t2⟩
        have O14 : Hid (OffR a.txs.length ta1 p4 ∧ OffR a.dirty.length da1 p4) := ⟨off_new n1 P17.out.1.lt, off_new n2 P17.out.1.lt⟩
        have P18a4 : Hid (BlkR x18 p4 zeroCellsR 46 ∧ w.heap.size + 2 ≤ p4) := ⟨(bb.block _ P17.out.1.lt).trans P17.out.1, P17.out.2⟩
        refine hK.out _ _ ⟨(bb.block _ (Array.getElem?_eq_some_iff.1 hS17.1).1).trans hS17.1, (bb.block _ (Array.getElem?_eq_some_iff.1 hS17.2).1).trans hS17.2⟩ (fun hS18 => ?_)
        clear hK K bb
        try simp only [Act.put, List.setIfInBounds_toArray, List.set_cons_zero, List.set_cons_succ]
        refine wpAnyH_ready (rs := [3, 5]) (by kernel_rfl) (by simp) ?_
        refine (AllReadyH.cons (i := 3) (by simp only [List.getElem?_toArray, List.getElem?_cons_succ, List.getElem?_cons_zero]; rfl) (fun K hK => ?_) (AllReadyH.cons (i := 5) (by simp only [List.getElem?_toArray, List.getElem?_cons_succ, List.getElem?_cons_zero]; rfl) (fun K hK => ?_) AllReadyH.nil))
        · go_simp
          refine (HB.out x18 B18.out).mono ?_
          rintro e x19 ⟨ta3, da3, tc3, dc3, rfl, bb, t1, t2, n1, n2⟩
          have B19 : Hid (Below w.heap.size w x19) := below_chain B18.out bb
          have T19 : Hid (TxsAt x19 ta3 b.txs ∧ DisAt x19 da3 b.dirty) := ⟨t1, t2⟩
          have O34 : Hid (OffR b.txs.length ta3 p4 ∧ OffR b.dirty.length da3 p4) := ⟨off_new n1 P18a4.out.1.lt, off_new n2 P18a4.out.1.lt⟩
          have T19c1 : Hid (TxsAt x19 ta1 a.txs ∧ DisAt x19 da1 a.dirty) := ⟨T18.out.1.below bb, T18.out.2.below bb⟩
          have P19a4 : Hid (BlkR x19 p4 zeroCellsR 46 ∧ w.heap.size + 2 ≤ p4) := ⟨(bb.block _ P18a4.out.1.lt).trans P18a4.out.1, P18a4.out.2⟩
          refine hK.out _ _ ⟨(bb.block _ (Array.getElem?_eq_some_iff.1 hS18.1).1).trans hS18.1, (bb.block _ (Array.getElem?_eq_some_iff.1 hS18.2).1).trans hS18.2⟩ (fun hS19 => ?_)
          clear hK K bb
          try simp only [Act.put, List.setIfInBounds_toArray, List.set_cons_zero, List.set_cons_succ]
          refine wpAnyH_ready (rs := [5]) (by kernel_rfl) (by simp) ?_
          refine (AllReadyH.cons (i := 5) (by simp only [List.getElem?_toArray, List.getElem?_cons_succ, List.getElem?_cons_zero]; rfl) (fun K hK => ?_) AllReadyH.nil)
          · go_simp
            have bb : Below x19.heap.size x19 (x19.alloc (.cells zeroCellsR 46)) := (Below.refl _ _).alloc (Nat.le_refl _) _
            have kk : BlkR (x19.alloc (.cells zeroCellsR 46)) x19.heap.size zeroCellsR 46 := heap_alloc_new x19 _
            obtain ⟨x20, HW20⟩ : ∃ y, Hid (y = x19.alloc (.cells zeroCellsR 46)) := ⟨_, rfl⟩
            obtain ⟨p5, hp20⟩ : ∃ y, y = x19.heap.size := ⟨_, rfl⟩
            rw [show x19.alloc (.cells #[.int .i64 0, .int .i64 0, .int .u64 0, .int .u64 0, .int .u32 0, .int .i64 0, .int .i64 0, .string ⟨#[]⟩, .string ⟨#[]⟩, .int .i64 0, .int .i64 0, .string ⟨#[]⟩, .int .u32 0, .int .i64 0, .bool false, .slice none 0 0, .slice none 0 0] 46) = x20 from HW20.out.symm, ← hp20]
            rw [← HW20.out] at bb kk
            rw [← hp20] at kk
            have B20 : Hid (Below w.heap.size w x20) := below_chain B19.out bb
            have P20 : Hid (BlkR x20 p5 zeroCellsR 46 ∧ w.heap.size + 2 ≤ p5) := ⟨kk, by have := (Array.getElem?_eq_some_iff.1 hS19.2).1; omega⟩
            have O15 : Hid (OffR a.txs.length ta1 p5 ∧ OffR a.dirty.length da1 p5) := ⟨hp20 ▸ off_t T19c1.out.1, hp20 ▸ off_d T19c1.out.2⟩
            have O35 : Hid (OffR b.txs.length ta3 p5 ∧ OffR b.dirty.length da3 p5) := ⟨hp20 ▸ off_t T19.out.1, hp20 ▸ off_d T19.out.2⟩
            have NE : Hid (p4 ≠ p5) := by have := P19a4.out.1.lt; show p4 ≠ p5; omega
            clear HW20 hp20 kk
            have T20c1 : Hid (TxsAt x20 ta1 a.txs ∧ DisAt x20 da1 a.dirty) := ⟨T19c1.out.1.below bb, T19c1.out.2.below bb⟩
            have T20c3 : Hid (TxsAt x20 ta3 b.txs ∧ DisAt x20 da3 b.dirty) := ⟨T19.out.1.below bb, T19.out.2.below bb⟩
            have P20a4 : Hid (BlkR x20 p4 zeroCellsR 46 ∧ w.heap.size + 2 ≤ p4) := ⟨(bb.block _ P19a4.out.1.lt).trans P19a4.out.1, P19a4.out.2⟩
            refine hK.out _ _ ⟨(bb.block _ (Array.getElem?_eq_some_iff.1 hS19.1).1).trans hS19.1, (bb.block _ (Array.getElem?_eq_some_iff.1 hS19.2).1).trans hS19.2⟩ (fun hS20 => ?_)
            clear hK K bb
            try simp only [Act.put, List.setIfInBounds_toArray, List.set_cons_zero, List.set_cons_succ]
            have HM : Hid (PairMid w x20 a b (a.cells ta da tc dc) (b.cells tb db uc vc) p4 p5 ta1 da1 ta3 da3) := ⟨B20.out, hS20.1, hS20.2, P20a4.out.1, P20.out.1, P20a4.out.2, P20.out.2, NE.out, ⟨T20c1.out.1, O14.out.1, O15.out.1⟩, ⟨T20c1.out.2, O14.out.2, O15.out.2⟩, ⟨T20c3.out.1, O34.out.1, O35.out.1⟩, ⟨T20c3.out.2, O34.out.2, O35.out.2⟩⟩
            refine wpAnyH_ready (rs := [6]) (by kernel_rfl) (by simp) ?_
            refine AllReadyH.cons (i := 6) (by simp only [List.getElem?_toArray, List.getElem?_cons_succ, List.getElem?_cons_zero]; rfl) (fun K hK => ?_) AllReadyH.nil
            refine step_storeRow (by rfl) _ _ _ (by rfl) (by rfl) p4 (by rfl) (a.cells ta1 da1 tc1 dc1) zeroCellsR (by rfl) _ HM.out.xa (by kernel_rfl) (by rfl) (ref_one a _ _ _ _ _ _) ?_
            refine hK.out _ _ ⟨(setRow_other _ _ _ _ (by have := HM.out.hp; omega)).trans HM.out.pa, (setRow_other _ _ _ _ (by have := HM.out.hp; omega)).trans HM.out.pb⟩ (fun hZ1 => ?_)
            clear hK K
            refine wpAnyH_ready (rs := [7]) (by kernel_rfl) (by simp) ?_
            refine AllReadyH.cons (i := 7) (by simp only [List.getElem?_toArray, List.getElem?_cons_succ, List.getElem?_cons_zero]; rfl) (fun K hK => ?_) AllReadyH.nil
            refine step_storeRow (by rfl) _ _ _ (by rfl) (by rfl) p5 (by rfl) (b.cells ta3 da3 tc3 dc3) zeroCellsR (by rfl) _ ((setRow_other _ _ _ _ (Ne.symm HM.out.ne)).trans HM.out.xb) (by kernel_rfl) (by rfl) (ref_one b _ _ _ _ _ _) ?_
            refine hK.out _ _ ⟨(setRow_other _ _ _ _ (by have := HM.out.hq; omega)).trans hZ1.1, (setRow_other _ _ _ _ (by have := HM.out.hq; omega)).trans hZ1.2⟩ (fun hZ2 => ?_)
            clear hK K
            refine wpAnyH_done (by kernel_rfl) ?_ _
            refine NoPanic.normal ?_
            go_wp2_with fail
            go_meet
            case rel => exact ⟨p4, p5, ta1, da1, ta3, da3, tc1, dc1, tc3, dc3, rfl, rfl, HM.out.done tc1 dc1 tc3 dc3⟩
        · go_simp
          have bb : Below x18.heap.size x18 (x18.alloc (.cells zeroCellsR 46)) := (Below.refl _ _).alloc (Nat.le_refl _) _
          have kk : BlkR (x18.alloc (.cells zeroCellsR 46)) x18.heap.size zeroCellsR 46 := heap_alloc_new x18 _
          obtain ⟨x21, HW21⟩ : ∃ y, Hid (y = x18.alloc (.cells zeroCellsR 46)) := ⟨_, rfl⟩
          obtain ⟨p5, hp21⟩ : ∃ y, y = x18.heap.size := ⟨_, rfl⟩
          rw [show x18.alloc (.cells #[.int .i64 0, .int .i64 0, .int .u64 0, .int .u64 0, .int .u32 0, .int .i64 0, .int .i64 0, .string ⟨#[]⟩, .string ⟨#[]⟩, .int .i64 0, .int .i64 0, .string ⟨#[]⟩, .int .u32 0, .int .i64 0, .bool false, .slice none 0 0, .slice none 0 0] 46) = x21 from HW21.out.symm, ← hp21]
          rw [← HW21.out] at bb kk
          rw [← hp21] at kk
          have B21 : Hid (Below w.heap.size w x21) := below_chain B18.out bb
          have P21 : Hid (BlkR x21 p5 zeroCellsR 46 ∧ w.heap.size + 2 ≤ p5) := ⟨kk, by have := (Array.getElem?_eq_some_iff.1 hS18.2).1; omega⟩
          have O15 : Hid (OffR a.txs.length ta1 p5 ∧ OffR a.dirty.length da1 p5) := ⟨hp21 ▸ off_t T18.out.1, hp21 ▸ off_d T18.out.2⟩
          have NE : Hid (p4 ≠ p5) := by have := P18a4.out.1.lt; show p4 ≠ p5; omega
          clear HW21 hp21 kk
          have T21c1 : Hid (TxsAt x21 ta1 a.txs ∧ DisAt x21 da1 a.dirty) := ⟨T18.out.1.below bb, T18.out.2.below bb⟩
          have P21a4 : Hid (BlkR x21 p4 zeroCellsR 46 ∧ w.heap.size + 2 ≤ p4) := ⟨(bb.block _ P18a4.out.1.lt).trans P18a4.out.1, P18a4.out.2⟩
          refine hK.out _ _ ⟨(bb.block _ (Array.getElem?_eq_some_iff.1 hS18.1).1).trans hS18.1, (bb.block _ (Array.getElem?_eq_some_iff.1 hS18.2).1).trans hS18.2⟩ (fun hS21 => ?_)
          clear hK K bb
          try simp only [Act.put, List.setIfInBounds_toArray, List.set_cons_zero, List.set_cons_succ]
          refine wpAnyH_ready (rs := [3]) (by kernel_rfl) (by simp) ?_
          refine (AllReadyH.cons (i := 3) (by simp only [List.getElem?_toArray, List.getElem?_cons_succ, List.getElem?_cons_zero]; rfl) (fun K hK => ?_) AllReadyH.nil)
          · go_simp
            refine (HB.out x21 B21.out).mono ?_
            rintro e x22 ⟨ta3, da3, tc3, dc3, rfl, bb, t1, t2, n1, n2⟩
            have B22 : Hid (Below w.heap.size w x22) := below_chain B21.out bb
            have T22 : Hid (TxsAt x22 ta3 b.txs ∧ DisAt x22 da3 b.dirty) := ⟨t1, t2⟩
            have O34 : Hid (OffR b.txs.length ta3 p4 ∧ OffR b.dirty.length da3 p4) := ⟨off_new n1 P21a4.out.1.lt, off_new n2 P21a4.out.1.lt⟩
            have O35 : Hid (OffR b.txs.length ta3 p5 ∧ OffR b.dirty.length da3 p5) := ⟨off_new n1 P21.out.1.lt, off_new n2 P21.out.1.lt⟩
            have T22c1 : Hid (TxsAt x22 ta1 a.txs ∧ DisAt x22 da1 a.dirty) := ⟨T21c1.out.1.below bb, T21c1.out.2.below bb⟩
            have P22a4 : Hid (BlkR x22 p4 zeroCellsR 46 ∧ w.heap.size + 2 ≤ p4) := ⟨(bb.block _ P21a4.out.1.lt).trans P21a4.out.1, P21a4.out.2⟩
            have P22a5 : Hid (BlkR x22 p5 zeroCellsR 46 ∧ w.heap.size + 2 ≤ p5) := ⟨(bb.block _ P21.out.1.lt).trans P21.out.1, P21.out.2⟩
            refine hK.out _ _ ⟨(bb.block _ (Array.getElem?_eq_some_iff.1 hS21.1).1).trans hS21.1, (bb.block _ (Array.getElem?_eq_some_iff.1 hS21.2).1).trans hS21.2⟩ (fun hS22 => ?_)
            clear hK K bb
            try simp only [Act.put, List.setIfInBounds_toArray, List.set_cons_zero, List.set_cons_succ]
            have HM : Hid (PairMid w x22 a b (a.cells ta da tc dc) (b.cells tb db uc vc) p4 p5 ta1 da1 ta3 da3) := ⟨B22.out, hS22.1, hS22.2, P22a4.out.1, P22a5.out.1, P22a4.out.2, P22a5.out.2, NE.out, ⟨T22c1.out.1, O14.out.1, O15.out.1⟩, ⟨T22c1.out.2, O14.out.2, O15.out.2⟩, ⟨T22.out.1, O34.out.1, O35.out.1⟩, ⟨T22.out.2, O34.out.2, O35.out.2⟩⟩
            refine wpAnyH_ready (rs := [6]) (by kernel_rfl) (by simp) ?_
            refine AllReadyH.cons (i := 6) (by simp only [List.getElem?_toArray, List.getElem?_cons_succ, List.getElem?_cons_zero]; rfl) (fun K hK => ?_) AllReadyH.nil
            refine step_storeRow (by rfl) _ _ _ (by rfl) (by rfl) p4 (by rfl) (a.cells ta1 da1 tc1 dc1) zeroCellsR (by rfl) _ HM.out.xa (by kernel_rfl) (by rfl) (ref_one a _ _ _ _ _ _) ?_
            refine hK.out _ _ ⟨(setRow_other _ _ _ _ (by have := HM.out.hp; omega)).trans HM.out.pa, (setRow_other _ _ _ _ (by have := HM.out.hp; omega)).trans HM.out.pb⟩ (fun hZ1 => ?_)
            clear hK K
            refine wpAnyH_ready (rs := [7]) (by kernel_rfl) (by simp) ?_
            refine AllReadyH.cons (i := 7) (by simp only [List.getElem?_toArray, List.getElem?_cons_succ, List.getElem?_cons_zero]; rfl) (fun K hK => ?_) AllReadyH.nil
            refine step_storeRow (by rfl) _ _ _ (by rfl) (by rfl) p5 (by rfl) (b.cells ta3 da3 tc3 dc3) zeroCellsR (by rfl) _ ((setRow_other _ _ _ _ (Ne.symm HM.out.ne)).trans HM.out.xb) (by kernel_rfl) (by rfl) (ref_one b _ _ _ _ _ _) ?_
            refine hK.out _ _ ⟨(setRow_other _ _ _ _ (by have := HM.out.hq; omega)).trans hZ1.1, (setRow_other _ _ _ _ (by have := HM.out.hq; omega)).trans hZ1.2⟩ (fun hZ2 => ?_)
            clear hK K
            refine wpAnyH_done (by kernel_rfl) ?_ _
            refine NoPanic.normal ?_
            go_wp2_with fail
            go_meet
            case rel => exact ⟨p4, p5, ta1, da1, ta3, da3, tc1, dc1, tc3, dc3, rfl, rfl, HM.out.done tc1 dc1 tc3 dc3⟩
      · go_simp
        have bb : Below x17.heap.size x17 (x17.alloc (.cells zeroCellsR 46)) := (Below.refl _ _).alloc (Nat.le_refl _) _
        have kk : BlkR (x17.alloc (.cells zeroCellsR 46)) x17.heap.size zeroCellsR 46 := heap_alloc_new x17 _
        obtain ⟨x23, HW23⟩ : ∃ y, Hid (y = x17.alloc (.cells zeroCellsR 46)) := ⟨_, rfl⟩
        obtain ⟨p5, hp23⟩ : ∃ y, y = x17.heap.size := ⟨_, rfl⟩
        rw [show x17.alloc (.cells #[.int .i64 0, .int .i64 0, .int .u64 0, .int .u64 0, .int .u32 0, .int .i64 0, .int .i64 0, .string ⟨#[]⟩, .string ⟨#[]⟩, .int .i64 0, .int .i64 0, .string ⟨#[]⟩, .int .u32 0, .int .i64 0, .bool false, .slice none 0 0, .slice none 0 0] 46) = x23 from HW23.out.symm, ← hp23]
        rw [← HW23.out] at bb kk
        rw [← hp23] at kk
        have B23 : Hid (Below w.heap.size w x23) := below_chain B17.out bb
        have P23 : Hid (BlkR x23 p5 zeroCellsR 46 ∧ w.heap.size + 2 ≤ p5) := ⟨kk, by have := (Array.getElem?_eq_some_iff.1 hS17.2).1; omega⟩
        have NE : Hid (p4 ≠ p5) := by have := P17.out.1.lt; show p4 ≠ p5; omega
        clear HW23 hp23 kk
        have P23a4 : Hid (BlkR x23 p4 zeroCellsR 46 ∧ w.heap.size + 2 ≤ p4) := ⟨(bb.block _ P17.out.1.lt).trans P17.out.1, P17.out.2⟩
        refine hK.out _ _ ⟨(bb.block _ (Array.getElem?_eq_some_iff.1 hS17.1).1).trans hS17.1, (bb.block _ (Array.getElem?_eq_some_iff.1 hS17.2).1).trans hS17.2⟩ (fun hS23 => ?_)
        clear hK K bb
        try simp only [Act.put, List.setIfInBounds_toArray, List.set_cons_zero, List.set_cons_succ]
        refine wpAnyH_ready (rs := [1]) (by kernel_rfl) (by simp) ?_
        refine (AllReadyH.cons (i := 1) (by simp only [List.getElem?_toArray, List.getElem?_cons_succ, List.getElem?_cons_zero]; rfl) (fun K hK => ?_) AllReadyH.nil)
        · go_simp
          refine (HA.out x23 B23.out).mono ?_
          rintro e x24 ⟨ta1, da1, tc1, dc1, rfl, bb, t1, t2, n1, n2⟩
          have B24 : Hid (Below w.heap.size w x24) := below_chain B23.out bb
          have T24 : Hid (TxsAt x24 ta1 a.txs ∧ DisAt x24 da1 a.dirty) := ⟨t1, t2⟩
          have O14 : Hid (OffR a.txs.length ta1 p4 ∧ OffR a.dirty.length da1 p4) := ⟨off_new n1 P23a4.out.1.lt, off_new n2 P23a4.out.1.lt⟩
          have O15 : Hid (OffR a.txs.length ta1 p5 ∧ OffR a.dirty.length da1 p5) := ⟨off_new n1 P23.out.1.lt, off_new n2 P23.out.1.lt⟩
          have P24a4 : Hid (BlkR x24 p4 zeroCellsR 46 ∧ w.heap.size + 2 ≤ p4) := ⟨(bb.block _ P23a4.out.1.lt).trans P23a4.out.1, P23a4.out.2⟩
          have P24a5 : Hid (BlkR x24 p5 zeroCellsR 46 ∧ w.heap.size + 2 ≤ p5) := ⟨(bb.block _ P23.out.1.lt).trans P23.out.1, P23.out.2⟩
          refine hK.out _ _ ⟨(bb.block _ (Array.getElem?_eq_some_iff.1 hS23.1).1).trans hS23.1, (bb.block _ (Array.getElem?_eq_some_iff.1 hS23.2).1).trans hS23.2⟩ (fun hS24 => ?_)
          clear hK K bb
          try simp only [Act.put, List.setIfInBounds_toArray, List.set_cons_zero, List.set_cons_succ]
          refine wpAnyH_ready (rs := [3]) (by kernel_rfl) (by simp) ?_
          refine (AllReadyH.cons (i := 3) (by simp only [List.getElem?_toArray, List.getElem?_cons_succ, List.getElem?_cons_zero]; rfl) (fun K hK => ?_) AllReadyH.nil)
          · go_simp
            refine (HB.out x24 B24.out).mono ?_
            rintro e x25 ⟨ta3, da3, tc3, dc3, rfl, bb, t1, t2, n1, n2⟩
            have B25 : Hid (Below w.heap.size w x25) := below_chain B24.out bb
            have T25 : Hid (TxsAt x25 ta3 b.txs ∧ DisAt x25 da3 b.dirty) := ⟨t1, t2⟩
            have O34 : Hid (OffR b.txs.length ta3 p4 ∧ OffR b.dirty.length da3 p4) := ⟨off_new n1 P24a4.out.1.lt, off_new n2 P24a4.out.1.lt⟩
            have O35 : Hid (OffR b.txs.length ta3 p5 ∧ OffR b.dirty.length da3 p5) := ⟨off_new n1 P24a5.out.1.lt, off_new n2 P24a5.out.1.lt⟩
            have T25c1 : Hid (TxsAt x25 ta1 a.txs ∧ DisAt x25 da1 a.dirty) := ⟨T24.out.1.below bb, T24.out.2.below bb⟩
            have P25a4 : Hid (BlkR x25 p4 zeroCellsR 46 ∧ w.heap.size + 2 ≤ p4) := ⟨(bb.block _ P24a4.out.1.lt).trans P24a4.out.1, P24a4.out.2⟩
            have P25a5 : Hid (BlkR x25 p5 zeroCellsR 46 ∧ w.heap.size + 2 ≤ p5) := ⟨(bb.block _ P24a5.out.1.lt).trans P24a5.out.1, P24a5.out.2⟩
            refine hK.out _ _ ⟨(bb.block _ (Array.getElem?_eq_some_iff.1 hS24.1).1).trans hS24.1, (bb.block _ (Array.getElem?_eq_some_iff.1 hS24.2).1).trans hS24.2⟩ (fun hS25 => ?_)
            clear hK K bb
            try simp only [Act.put, List.setIfInBounds_toArray, List.set_cons_zero, List.set_cons_succ]
            have HM : Hid (PairMid w x25 a b (a.cells ta da tc dc) (b.cells tb db uc vc) p4 p5 ta1 da1 ta3 da3) := ⟨B25.out, hS25.1, hS25.2, P25a4.out.1, P25a5.out.1, P25a4.out.2, P25a5.out.2, NE.out, ⟨T25c1.out.1, O14.out.1, O15.out.1⟩, ⟨T25c1.out.2, O14.out.2, O15.out.2⟩, ⟨T25.out.1, O34.out.1, O35.out.1⟩, ⟨T25.out.2, O34.out.2, O35.out.2⟩⟩
            refine wpAnyH_ready (rs := [6]) (by kernel_rfl) (by simp) ?_
            refine AllReadyH.cons (i := 6) (by simp only [List.getElem?_toArray, List.getElem?_cons_succ, List.getElem?_cons_zero]; rfl) (fun K hK => ?_) AllReadyH.nil
            refine step_storeRow (by rfl) _ _ _ (by rfl) (by rfl) p4 (by rfl) (a.cells ta1 da1 tc1 dc1) zeroCellsR (by rfl) _ HM.out.xa (by kernel_rfl) (by rfl) (ref_one a _ _ _ _ _ _) ?_
            refine hK.out _ _ ⟨(setRow_other _ _ _ _ (by have := HM.out.hp; omega)).trans HM.out.pa, (setRow_other _ _ _ _ (by have := HM.out.hp; omega)).trans HM.out.pb⟩ (fun hZ1 => ?_)
            clear hK K
            refine wpAnyH_ready (rs := [7]) (by kernel_rfl) (by simp) ?_
            refine AllReadyH.cons (i := 7) (by simp only [List.getElem?_toArray, List.getElem?_cons_succ, List.getElem?_cons_zero]; rfl) (fun K hK => ?_) AllReadyH.nil
            refine step_storeRow (by rfl) _ _ _ (by rfl) (by rfl) p5 (by rfl) (b.cells ta3 da3 tc3 dc3) zeroCellsR (by rfl) _ ((setRow_other _ _ _ _ (Ne.symm HM.out.ne)).trans HM.out.xb) (by kernel_rfl) (by rfl) (ref_one b _ _ _ _ _ _) ?_
            refine hK.out _ _ ⟨(setRow_other _ _ _ _ (by have := HM.out.hq; omega)).trans hZ1.1, (setRow_other _ _ _ _ (by have := HM.out.hq; omega)).trans hZ1.2⟩ (fun hZ2 => ?_)
            clear hK K
            refine wpAnyH_done (by kernel_rfl) ?_ _
            refine NoPanic.normal ?_
            go_wp2_with fail
            go_meet
            case rel => exact ⟨p4, p5, ta1, da1, ta3, da3, tc1, dc1, tc3, dc3, rfl, rfl, HM.out.done tc1 dc1 tc3 dc3⟩
    · go_simp
      have bb : Below x0.heap.size x0 (x0.alloc (.cells zeroCellsR 46)) := (Below.refl _ _).alloc (Nat.le_refl _) _
      have kk : BlkR (x0.alloc (.cells zeroCellsR 46)) x0.heap.size zeroCellsR 46 := heap_alloc_new x0 _
      obtain ⟨x26, HW26⟩ : ∃ y, Hid (y = x0.alloc (.cells zeroCellsR 46)) := ⟨_, rfl⟩
      obtain ⟨p5, hp26⟩ : ∃ y, y = x0.heap.size := ⟨_, rfl⟩
      rw [show x0.alloc (.cells #[.int .i64 0, .int .i64 0, .int .u64 0, .int .u64 0, .int .u32 0, .int .i64 0, .int .i64 0, .string ⟨#[]⟩, .string ⟨#[]⟩, .int .i64 0, .int .i64 0, .string ⟨#[]⟩, .int .u32 0, .int .i64 0, .bool false, .slice none 0 0, .slice none 0 0] 46) = x26 from HW26.out.symm, ← hp26]
      rw [← HW26.out] at bb kk
      rw [← hp26] at kk
      have B26 : Hid (Below w.heap.size w x26) := below_chain B0.out bb
      have P26 : Hid (BlkR x26 p5 zeroCellsR 46 ∧ w.heap.size + 2 ≤ p5) := ⟨kk, by have := (Array.getElem?_eq_some_iff.1 hS0.2).1; omega⟩
      clear HW26 hp26 kk
      refine hK.out _ _ ⟨(bb.block _ (Array.getElem?_eq_some_iff.1 hS0.1).1).trans hS0.1, (bb.block _ (Array.getElem?_eq_some_iff.1 hS0.2).1).trans hS0.2⟩ (fun hS26 => ?_)
      clear hK K bb
      try simp only [Act.put, List.setIfInBounds_toArray, List.set_cons_zero, List.set_cons_succ]
      refine wpAnyH_ready (rs := [1, 4]) (by kernel_rfl) (by simp) ?_
      refine (AllReadyH.cons (i := 1) (by simp only [List.getElem?_toArray, List.getElem?_cons_succ, List.getElem?_cons_zero]; rfl) (fun K hK => ?_) (AllReadyH.cons (i := 4) (by simp only [List.getElem?_toArray, List.getElem?_cons_succ, List.getElem?_cons_zero]; rfl) (fun K hK => ?_) AllReadyH.nil))
      · go_simp
        refine (HA.out x26 B26.out).mono ?_
        rintro e x27 ⟨ta1, da1, tc1, dc1, rfl, bb, t1, t2, n1, n2⟩
        have B27 : Hid (Below w.heap.size w x27) := below_chain B26.out bb
        have T27 : Hid (TxsAt x27 ta1 a.txs ∧ DisAt x27 da1 a.dirty) := ⟨t1, t2⟩
        have O15 : Hid (OffR a.txs.length ta1 p5 ∧ OffR a.dirty.length da1 p5) := ⟨off_new n1 P26.out.1.lt, off_new n2 P26.out.1.lt⟩
        have P27a5 : Hid (BlkR x27 p5 zeroCellsR 46 ∧ w.heap.size + 2 ≤ p5) := ⟨(bb.block _ P26.out.1.lt).trans P26.out.1, P26.out.2⟩
        refine hK.out _ _ ⟨(bb.block _ (Array.getElem?_eq_some_iff.1 hS26.1).1).trans hS26.1, (bb.block _ (Array.getElem?_eq_some_iff.1 hS26.2).1).trans hS26.2⟩ (fun hS27 => ?_)
        clear hK K bb
        try simp only [Act.put, List.setIfInBounds_toArray, List.set_cons_zero, List.set_cons_succ]
        refine wpAnyH_ready (rs := [3, 4]) (by kernel_rfl) (by simp) ?_
        refine (AllReadyH.cons (i := 3) (by simp only [List.getElem?_toArray, List.getElem?_cons_succ, List.getElem?_cons_zero]; rfl) (fun K hK => ?_) (AllReadyH.cons (i := 4) (by simp only [List.getElem?_toArray, List.getElem?_cons_succ, List.getElem?_cons_zero]; rfl) (fun K hK => ?_) AllReadyH.nil))
        · go_simp
          refine (HB.out x27 B27.out).mono ?_
          rintro e x28 ⟨ta3, da3, tc3, dc3, rfl, bb, t1, t2, n1, n2⟩
          have B28 : Hid (Below w.heap.size w x28) := below_chain B27.out bb
          have T28 : Hid (TxsAt x28 ta3 b.txs ∧ DisAt x28 da3 b.dirty) := ⟨t1, t2⟩
          have O35 : Hid (OffR b.txs.length ta3 p5 ∧ OffR b.dirty.length da3 p5) := ⟨off_new n1 P27a5.out.1.lt, off_new n2 P27a5.out.1.lt⟩
          have T28c1 : Hid (TxsAt x28 ta1 a.txs ∧ DisAt x28 da1 a.dirty) := ⟨T27.out.1.below bb, T27.out.2.below bb⟩
          have P28a5 : Hid (BlkR x28 p5 zeroCellsR 46 ∧ w.heap.size + 2 ≤ p5) := ⟨(bb.block _ P27a5.out.1.lt).trans P27a5.out.1, P27a5.out.2⟩
          refine hK.out _ _ ⟨(bb.block _ (Array.getElem?_eq_some_iff.1 hS27.1).1).trans hS27.1, (bb.block _ (Array.getElem?_eq_some_iff.1 hS27.2).1).trans hS27.2⟩ (fun hS28 => ?_)
          clear hK K bb
          try simp only [Act.put, List.setIfInBounds_toArray, List.set_cons_zero, List.set_cons_succ]
          refine wpAnyH_ready (rs := [4]) (by kernel_rfl) (by simp) ?_
          refine (AllReadyH.cons (i := 4) (by simp only [List.getElem?_toArray, List.getElem?_cons_succ, List.getElem?_cons_zero]; rfl) (fun K hK => ?_) AllReadyH.nil)
          · go_simp
            have bb : Below x28.heap.size x28 (x28.alloc (.cells zeroCellsR 46)) := (Below.refl _ _).alloc (Nat.le_refl _) _
            have kk : BlkR (x28.alloc (.cells zeroCellsR 46)) x28.heap.size zeroCellsR 46 := heap_alloc_new x28 _
            obtain ⟨x29, HW29⟩ : ∃ y, Hid (y = x28.alloc (.cells zeroCellsR 46)) := ⟨_, rfl⟩
            obtain ⟨p4, hp29⟩ : ∃ y, y = x28.heap.size := ⟨_, rfl⟩
            rw [show x28.alloc (.cells #[.int .i64 0, .int .i64 0, .int .u64 0, .int .u64 0, .int .u32 0, .int .i64 0, .int .i64 0, .string ⟨#[]⟩, .string ⟨#[]⟩, .int .i64 0, .int .i64 0, .string ⟨#[]⟩, .int .u32 0, .int .i64 0, .bool false, .slice none 0 0, .slice none 0 0] 46) = x29 from HW29.out.symm, ← hp29]
            rw [← HW29.out] at bb kk
            rw [← hp29] at kk
            have B29 : Hid (Below w.heap.size w x29) := below_chain B28.out bb
            have P29 : Hid (BlkR x29 p4 zeroCellsR 46 ∧ w.heap.size + 2 ≤ p4) := ⟨kk, by have := (Array.getElem?_eq_some_iff.1 hS28.2).1; omega⟩
            have O14 : Hid (OffR a.txs.length ta1 p4 ∧ OffR a.dirty.length da1 p4) := ⟨hp29 ▸ off_t T28c1.out.1, hp29 ▸ off_d T28c1.out.2⟩
            have O34 : Hid (OffR b.txs.length ta3 p4 ∧ OffR b.dirty.length da3 p4) := ⟨hp29 ▸ off_t T28.out.1, hp29 ▸ off_d T28.out.2⟩
            have NE : Hid (p4 ≠ p5) := by have := P28a5.out.1.lt; show p4 ≠ p5; omega
            clear HW29 hp29 kk
            have T29c1 : Hid (TxsAt x29 ta1 a.txs ∧ DisAt x29 da1 a.dirty) := ⟨T28c1.out.1.below bb, T28c1.out.2.below bb⟩
            have T29c3 : Hid (TxsAt x29 ta3 b.txs ∧ DisAt x29 da3 b.dirty) := ⟨T28.out.1.below bb, T28.out.2.below bb⟩
            have P29a5 : Hid (BlkR x29 p5 zeroCellsR 46 ∧ w.heap.size + 2 ≤ p5) := ⟨(bb.block _ P28a5.out.1.lt).trans P28a5.out.1, P28a5.out.2⟩
            refine hK.out _ _ ⟨(bb.block _ (Array.getElem?_eq_some_iff.1 hS28.1).1).trans hS28.1, (bb.block _ (Array.getElem?_eq_some_iff.1 hS28.2).1).trans hS28.2⟩ (fun hS29 => ?_)
            clear hK K bb
            try simp only [Act.put, List.setIfInBounds_toArray, List.set_cons_zero, List.set_cons_succ]
            have HM : Hid (PairMid w x29 a b (a.cells ta da tc dc) (b.cells tb db uc vc) p4 p5 ta1 da1 ta3 da3) := ⟨B29.out, hS29.1, hS29.2, P29.out.1, P29a5.out.1, P29.out.2, P29a5.out.2, NE.out, ⟨T29c1.out.1, O14.out.1, O15.out.1⟩, ⟨T29c1.out.2, O14.out.2, O15.out.2⟩, ⟨T29c3.out.1, O34.out.1, O35.out.1⟩, ⟨T29c3.out.2, O34.out.2, O35.out.2⟩⟩
            refine wpAnyH_ready (rs := [6]) (by kernel_rfl) (by simp) ?_
            refine AllReadyH.cons (i := 6) (by simp only [List.getElem?_toArray, List.getElem?_cons_succ, List.getElem?_cons_zero]; rfl) (fun K hK => ?_) AllReadyH.nil
            refine step_storeRow (by rfl) _ _ _ (by rfl) (by rfl) p4 (by rfl) (a.cells ta1 da1 tc1 dc1) zeroCellsR (by rfl) _ HM.out.xa (by kernel_rfl) (by rfl) (ref_one a _ _ _ _ _ _) ?_
            refine hK.out _ _ ⟨(setRow_other _ _ _ _ (by have := HM.out.hp; omega)).trans HM.out.pa, (setRow_other _ _ _ _ (by have := HM.out.hp; omega)).trans HM.out.pb⟩ (fun hZ1 => ?_)
            clear hK K
            refine wpAnyH_ready (rs := [7]) (by kernel_rfl) (by simp) ?_
            refine AllReadyH.cons (i := 7) (by simp only [List.getElem?_toArray, List.getElem?_cons_succ, List.getElem?_cons_zero]; rfl) (fun K hK => ?_) AllReadyH.nil
            refine step_storeRow (by rfl) _ _ _ (by rfl) (by rfl) p5 (by rfl) (b.cells ta3 da3 tc3 dc3) zeroCellsR (by rfl) _ ((setRow_other _ _ _ _ (Ne.symm HM.out.ne)).trans HM.out.xb) (by kernel_rfl) (by rfl) (ref_one b _ _ _ _ _ _) ?_
            refine hK.out _ _ ⟨(setRow_other _ _ _ _ (by have := HM.out.hq; omega)).trans hZ1.1, (setRow_other _ _ _ _ (by have := HM.out.hq; omega)).trans hZ1.2⟩ (fun hZ2 => ?_)
            clear hK K
            refine wpAnyH_done (by kernel_rfl) ?_ _
            refine NoPanic.normal ?_
            go_wp2_with fail
            go_meet
            case rel => exact ⟨p4, p5, ta1, da1, ta3, da3, tc1, dc1, tc3, dc3, rfl, rfl, HM.out.done tc1 dc1 tc3 dc3⟩
        · go_simp
          have bb : Below x27.heap.size x27 (x27.alloc (.cells zeroCellsR 46)) := (Below.refl _ _).alloc (Nat.le_refl _) _
          have kk : BlkR (x27.alloc (.cells zeroCellsR 46)) x27.heap.size zeroCellsR 46 := heap_alloc_new x27 _
          obtain ⟨x30, HW30⟩ : ∃ y, Hid (y = x27.alloc (.cells zeroCellsR 46)) := ⟨_, rfl⟩
          obtain ⟨p4, hp30⟩ : ∃ y, y = x27.heap.size := ⟨_, rfl⟩
          rw [show x27.alloc (.cells #[.int .i64 0, .int .i64 0, .int .u64 0, .int .u64 0, .int .u32 0, .int .i64 0, .int .i64 0, .string ⟨#[]⟩, .string ⟨#[]⟩, .int .i64 0, .int .i64 0, .string ⟨#[]⟩, .int .u32 0, .int .i64 0, .bool false, .slice none 0 0, .slice none 0 0] 46) = x30 from HW30.out.symm, ← hp30]
          rw [← HW30.out] at bb kk
          rw [← hp30] at kk
          have B30 : Hid (Below w.heap.size w x30) := below_chain B27.out bb
          have P30 : Hid (BlkR x30 p4 zeroCellsR 46 ∧ w.heap.size + 2 ≤ p4) := ⟨kk, by have := (Array.getElem?_eq_some_iff.1 hS27.2).1; omega⟩
          have O14 : Hid (OffR a.txs.length ta1 p4 ∧ OffR a.dirty.length da1 p4) := ⟨hp30 ▸ off_t T27.out.1, hp30 ▸ off_d T27.out.2⟩
          have NE : Hid (p4 ≠ p5) := by have := P27a5.out.1.lt; show p4 ≠ p5; omega
          clear HW30 hp30 kk
          have T30c1 : Hid (TxsAt x30 ta1 a.txs ∧ DisAt x30 da1 a.dirty) := ⟨T27.out.1.below bb, T27.out.2.below bb⟩
          have P30a5 : Hid (BlkR x30 p5 zeroCellsR 46 ∧ w.heap.size + 2 ≤ p5) := ⟨(bb.block _ P27a5.out.1.lt).trans P27a5.out.1, P27a5.out.2⟩
          refine hK.out _ _ ⟨(bb.block _ (Array.getElem?_eq_some_iff.1 hS27.1).1).trans hS27.1, (bb.block _ (Array.getElem?_eq_some_iff.1 hS27.2).1).trans hS27.2⟩ (fun hS30 => ?_)
          clear hK K bb
          try simp only [Act.put, List.setIfInBounds_toArray, List.set_cons_zero, List.set_cons_succ]
          refine wpAnyH_ready (rs := [3]) (by kernel_rfl) (by simp) ?_
          refine (AllReadyH.cons (i := 3) (by simp only [List.getElem?_toArray, List.getElem?_cons_succ, List.getElem?_cons_zero]; rfl) (fun K hK => ?_) AllReadyH.nil)
          · go_simp
            refine (HB.out x30 B30.out).mono ?_
            rintro e x31 ⟨ta3, da3, tc3, dc3, rfl, bb, t1, t2, n1, n2⟩
            have B31 : Hid (Below w.heap.size w x31) := below_chain B30.out bb
            have T31 : Hid (TxsAt x31 ta3 b.txs ∧ DisAt x31 da3 b.dirty) := ⟨t1, t2⟩
            have O34 : Hid (OffR b.txs.length ta3 p4 ∧ OffR b.dirty.length da3 p4) := ⟨off_new n1 P30.out.1.lt, off_new n2 P30.out.1.lt⟩
            have O35 : Hid (OffR b.txs.length ta3 p5 ∧ OffR b.dirty.length da3 p5) := ⟨off_new n1 P30a5.out.1.lt, off_new n2 P30a5.out.1.lt⟩
            have T31c1 : Hid (TxsAt x31 ta1 a.txs ∧ DisAt x31 da1 a.dirty) := ⟨T30c1.out.1.below bb, T30c1.out.2.below bb⟩
            have P31a4 : Hid (BlkR x31 p4 zeroCellsR 46 ∧ w.heap.size + 2 ≤ p4) := ⟨(bb.block _ P30.out.1.lt).trans P30.out.1, P30.out.2⟩
            have P31a5 : Hid (BlkR x31 p5 zeroCellsR 46 ∧ w.heap.size + 2 ≤ p5) := ⟨(bb.block _ P30a5.out.1.lt).trans P30a5.out.1, P30a5.out.2⟩
            refine hK.out _ _ ⟨(bb.block _ (Array.getElem?_eq_some_iff.1 hS30.1).1).trans hS30.1, (bb.block _ (Array.getElem?_eq_some_iff.1 hS30.2).1).trans hS30.2⟩ (fun hS31 => ?_)
            clear hK K bb
            try simp only [Act.put, List.setIfInBounds_toArray, List.set_cons_zero, List.set_cons_succ]
            have HM : Hid (PairMid w x31 a b (a.cells ta da tc dc) (b.cells tb db uc vc) p4 p5 ta1 da1 ta3 da3) := ⟨B31.out, hS31.1, hS31.2, P31a4.out.1, P31a5.out.1, P31a4.out.2, P31a5.out.2, NE.out, ⟨T31c1.out.1, O14.out.1, O15.out.1⟩, ⟨T31c1.out.2, O14.out.2, O15.out.2⟩, ⟨T31.out.1, O34.out.1, O35.out.1⟩, ⟨T31.out.2, O34.out.2, O35.out.2⟩⟩
            refine wpAnyH_ready (rs := [6]) (by kernel_rfl) (by simp) ?_
            refine AllReadyH.cons (i := 6) (by simp only [List.getElem?_toArray, List.getElem?_cons_succ, List.getElem?_cons_zero]; rfl) (fun K hK => ?_) AllReadyH.nil
            refine step_storeRow (by rfl) _ _ _ (by rfl) (by rfl) p4 (by rfl) (a.cells ta1 da1 tc1 dc1) zeroCellsR (by rfl) _ HM.out.xa (by kernel_rfl) (by rfl) (ref_one a _ _ _ _ _ _) ?_
            refine hK.out _ _ ⟨(setRow_other _ _ _ _ (by have := HM.out.hp; omega)).trans HM.out.pa, (setRow_other _ _ _ _ (by have := HM.out.hp; omega)).trans HM.out.pb⟩ (fun hZ1 => ?_)
            clear hK K
            refine wpAnyH_ready (rs := [7]) (by kernel_rfl) (by simp) ?_
            refine AllReadyH.cons (i := 7) (by simp only [List.getElem?_toArray, List.getElem?_cons_succ, List.getElem?_cons_zero]; rfl) (fun K hK => ?_) AllReadyH.nil
            refine step_storeRow (by rfl) _ _ _ (by rfl) (by rfl) p5 (by rfl) (b.cells ta3 da3 tc3 dc3) zeroCellsR (by rfl) _ ((setRow_other _ _ _ _ (Ne.symm HM.out.ne)).trans HM.out.xb) (by kernel_rfl) (by rfl) (ref_one b _ _ _ _ _ _) ?_
            refine hK.out _ _ ⟨(setRow_other _ _ _ _ (by have := HM.out.hq; omega)).trans hZ1.1, (setRow_other _ _ _ _ (by have := HM.out.hq; omega)).trans hZ1.2⟩ (fun hZ2 => ?_)
            clear hK K
            refine wpAnyH_done (by kernel_rfl) ?_ _
            refine NoPanic.normal ?_
            go_wp2_with fail
            go_meet
            case rel => exact ⟨p4, p5, ta1, da1, ta3, da3, tc1, dc1, tc3, dc3, rfl, rfl, HM.out.done tc1 dc1 tc3 dc3⟩
      · go_simp
        have bb : Below x26.heap.size x26 (x26.alloc (.cells zeroCellsR 46)) := (Below.refl _ _).alloc (Nat.le_refl _) _
        have kk : BlkR (x26.alloc (.cells zeroCellsR 46)) x26.heap.size zeroCellsR 46 := heap_alloc_new x26 _
        obtain ⟨x32, HW32⟩ : ∃ y, Hid (y = x26.alloc (.cells zeroCellsR 46)) := ⟨_, rfl⟩
        obtain ⟨p4, hp32⟩ : ∃ y, y = x26.heap.size := ⟨_, rfl⟩
        rw [show x26.alloc (.cells #[.int .i64 0, .int .i64 0, .int .u64 0, .int .u64 0, .int .u32 0, .int .i64 0, .int .i64 0, .string ⟨#[]⟩, .string ⟨#[]⟩, .int .i64 0, .int .i64 0, .string ⟨#[]⟩, .int .u32 0, .int .i64 0, .bool false, .slice none 0 0, .slice none 0 0] 46) = x32 from HW32.out.symm, ← hp32]
        rw [← HW32.out] at bb kk
        rw [← hp32] at kk
        have B32 : Hid (Below w.heap.size w x32) := below_chain B26.out bb
        have P32 : Hid (BlkR x32 p4 zeroCellsR 46 ∧ w.heap.size + 2 ≤ p4) := ⟨kk, by have := (Array.getElem?_eq_some_iff.1 hS26.2).1; omega⟩
        have NE : Hid (p4 ≠ p5) := by have := P26.out.1.lt; show p4 ≠ p5; omega
        clear HW32 hp32 kk
        have P32a5 : Hid (BlkR x32 p5 zeroCellsR 46 ∧ w.heap.size + 2 ≤ p5) := ⟨(bb.block _ P26.out.1.lt).trans P26.out.1, P26.out.2⟩
        refine hK.out _ _ ⟨(bb.block _ (Array.getElem?_eq_some_iff.1 hS26.1).1).trans hS26.1, (bb.block _ (Array.getElem?_eq_some_iff.1 hS26.2).1).trans hS26.2⟩ (fun hS32 => ?_)
        clear hK K bb
        try simp only [Act.put, List.setIfInBounds_toArray, List.set_cons_zero, List.set_cons_succ]
        refine wpAnyH_ready (rs := [1]) (by kernel_rfl) (by simp) ?_
        refine (AllReadyH.cons (i := 1) (by simp only [List.getElem?_toArray, List.getElem?_cons_succ, List.getElem?_cons_zero]; rfl) (fun K hK => ?_) AllReadyH.nil)
        · go_simp
          refine (HA.out x32 B32.out).mono ?_
          rintro e x33 ⟨ta1, da1, tc1, dc1, rfl, bb, t1, t2, n1, n2⟩
          have B33 : Hid (Below w.heap.size w x33) := below_chain B32.out bb
          have T33 : Hid (TxsAt x33 ta1 a.txs ∧ DisAt x33 da1 a.dirty) := ⟨t1, t2⟩
          have O14 : Hid (OffR a.txs.length ta1 p4 ∧ OffR a.dirty.length da1 p4) := ⟨off_new n1 P32.out.1.lt, off_new n2 P32.out.1.lt⟩
          have O15 : Hid (OffR a.txs.length ta1 p5 ∧ OffR a.dirty.length da1 p5) := ⟨off_new n1 P32a5.out.1.lt, off_new n2 P32a5.out.1.lt⟩
          have P33a4 : Hid (BlkR x33 p4 zeroCellsR 46 ∧ w.heap.size + 2 ≤ p4) := ⟨(bb.block _ P32.out.1.lt).trans P32.out.1, P32.out.2⟩
          have P33a5 : Hid (BlkR x33 p5 zeroCellsR 46 ∧ w.heap.size + 2 ≤ p5) := ⟨(bb.block _ P32a5.out.1.lt).trans P32a5.out.1, P32a5.out.2⟩
          refine hK.out _ _ ⟨(bb.block _ (Array.getElem?_eq_some_iff.1 hS32.1).1).trans hS32.1, (bb.block _ (Array.getElem?_eq_some_iff.1 hS32.2).1).trans hS32.2⟩ (fun hS33 => ?_)
          clear hK K bb
          try simp only [Act.put, List.setIfInBounds_toArray, List.set_cons_zero, List.set_cons_succ]
          refine wpAnyH_ready (rs := [3]) (by kernel_rfl) (by simp) ?_
          refine (AllReadyH.cons (i := 3) (by simp only [List.getElem?_toArray, List.getElem?_cons_succ, List.getElem?_cons_zero]; rfl) (fun K hK => ?_) AllReadyH.nil)
          · go_simp
            refine (HB.out x33 B33.out).mono ?_
            rintro e x34 ⟨ta3, da3, tc3, dc3, rfl, bb, t1, t2, n1, n2⟩
            have B34 : Hid (Below w.heap.size w x34) := below_chain B33.out bb
            have T34 : Hid (TxsAt x34 ta3 b.txs ∧ DisAt x34 da3 b.dirty) := ⟨t1, t2⟩
            have O34 : Hid (OffR b.txs.length ta3 p4 ∧ OffR b.dirty.length da3 p4) := ⟨off_new n1 P33a4.out.1.lt, off_new n2 P33a4.out.1.lt⟩
            have O35 : Hid (OffR b.txs.length ta3 p5 ∧ OffR b.dirty.length da3 p5) := ⟨off_new n1 P33a5.out.1.lt, off_new n2 P33a5.out.1.lt⟩
            have T34c1 : Hid (TxsAt x34 ta1 a.txs ∧ DisAt x34 da1 a.dirty) := ⟨T33.out.1.below bb, T33.out.2.below bb⟩
            have P34a4 : Hid (BlkR x34 p4 zeroCellsR 46 ∧ w.heap.size + 2 ≤ p4) := ⟨(bb.block _ P33a4.out.1.lt).trans P33a4.out.1, P33a4.out.2⟩
            have P34a5 : Hid (BlkR x34 p5 zeroCellsR 46 ∧ w.heap.size + 2 ≤ p5) := ⟨(bb.block _ P33a5.out.1.lt).trans P33a5.out.1, P33a5.out.2⟩
            refine hK.out _ _ ⟨(bb.block _ (Array.getElem?_eq_some_iff.1 hS33.1).1).trans hS33.1, (bb.block _ (Array.getElem?_eq_some_iff.1 hS33.2).1).trans hS33.2⟩ (fun hS34 => ?_)
            clear hK K bb
            try simp only [Act.put, List.setIfInBounds_toArray, List.set_cons_zero, List.set_cons_succ]
            have HM : Hid (PairMid w x34 a b (a.cells ta da tc dc) (b.cells tb db uc vc) p4 p5 ta1 da1 ta3 da3) := ⟨B34.out, hS34.1, hS34.2, P34a4.out.1, P34a5.out.1, P34a4.out.2, P34a5.out.2, NE.out, ⟨T34c1.out.1, O14.out.1, O15.out.1⟩, ⟨T34c1.out.2, O14.out.2, O15.out.2⟩, ⟨T34.out.1, O34.out.1, O35.out.1⟩, ⟨T34.out.2, O34.out.2, O35.out.2⟩⟩
            refine wpAnyH_ready (rs := [6]) (by kernel_rfl) (by simp) ?_
            refine AllReadyH.cons (i := 6) (by simp only [List.getElem?_toArray, List.getElem?_cons_succ, List.getElem?_cons_zero]; rfl) (fun K hK => ?_) AllReadyH.nil
            refine step_storeRow (by rfl) _ _ _ (by rfl) (by rfl) p4 (by rfl) (a.cells ta1 da1 tc1 dc1) zeroCellsR (by rfl) _ HM.out.xa (by kernel_rfl) (by rfl) (ref_one a _ _ _ _ _ _) ?_
            refine hK.out _ _ ⟨(setRow_other _ _ _ _ (by have := HM.out.hp; omega)).trans HM.out.pa, (setRow_other _ _ _ _ (by have := HM.out.hp; omega)).trans HM.out.pb⟩ (fun hZ1 => ?_)
            clear hK K
            refine wpAnyH_ready (rs := [7]) (by kernel_rfl) (by simp) ?_
            refine AllReadyH.cons (i := 7) (by simp only [List.getElem?_toArray, List.getElem?_cons_succ, List.getElem?_cons_zero]; rfl) (fun K hK => ?_) AllReadyH.nil
            refine step_storeRow (by rfl) _ _ _ (by rfl) (by rfl) p5 (by rfl) (b.cells ta3 da3 tc3 dc3) zeroCellsR (by rfl) _ ((setRow_other _ _ _ _ (Ne.symm HM.out.ne)).trans HM.out.xb) (by kernel_rfl) (by rfl) (ref_one b _ _ _ _ _ _) ?_
            refine hK.out _ _ ⟨(setRow_other _ _ _ _ (by have := HM.out.hq; omega)).trans hZ1.1, (setRow_other _ _ _ _ (by have := HM.out.hq; omega)).trans hZ1.2⟩ (fun hZ2 => ?_)
            clear hK K
            refine wpAnyH_done (by kernel_rfl) ?_ _
            refine NoPanic.normal ?_
            go_wp2_with fail
            go_meet
            case rel => exact ⟨p4, p5, ta1, da1, ta3, da3, tc1, dc1, tc3, dc3, rfl, rfl, HM.out.done tc1 dc1 tc3 dc3⟩
  case rest =>
    obtain ⟨p, q, ta1, da1, tb1, db1, tc1, dc1, uc1, vc1, rfl, rfl, hP⟩ := hcut
    have HP := hidr hP
    clear hP HA HB HPA HPB B00
    generalize wc = X0 at *
    have la1 : a.txs.length ≤ 4398046511104 := by have := HOA.out.tlen; omega
    have la2 : a.dirty.length ≤ 8796093022208 := by have := HOA.out.dlen; omega
    have lb1 : b.txs.length ≤ 4398046511104 := by have := HOB.out.tlen; omega
    have lb2 : b.dirty.length ≤ 8796093022208 := by have := HOB.out.dlen; omega
    have a15 : X0.cell? ⟨p, 15, none⟩ = some (.slice ta1 a.txs.length tc1) := HP.out.xa.cell 15
    have a16 : X0.cell? ⟨p, 16, none⟩ = some (.slice da1 a.dirty.length dc1) := HP.out.xa.cell 16
    have b15 : X0.cell? ⟨q, 15, none⟩ = some (.slice tb1 b.txs.length uc1) := HP.out.xb.cell 15
    have b16 : X0.cell? ⟨q, 16, none⟩ = some (.slice db1 b.dirty.length vc1) := HP.out.xb.cell 16
    go_upto_region 2 with fail
    go_cut [7] from 14 to 29 (fun v wx => ∃ s : Bool, v = .bool s ∧ wx = X0 ∧ Hid ((s = true ∧ a.txs.length = b.txs.length ∧ a.dirty.length = b.dirty.length) ∨ (s = false ∧ ¬ (a.txs = b.txs ∧ a.dirty = b.dirty))))
    case first =>
      by_cases h1 : a.txs.length = b.txs.length
      · have e1 : ((a.txs.length : Int) == (b.txs.length : Int)) = true := by rw [beq_iff_eq]; omega
        by_cases h2 : a.dirty.length = b.dirty.length
        · have e2 : ((a.dirty.length : Int) == (b.dirty.length : Int)) = true := by rw [beq_iff_eq]; omega
          have HH : Hid (a.txs.length = b.txs.length ∧ a.dirty.length = b.dirty.length) := ⟨h1, h2⟩
          clear h1 h2
          go_wp2_with fail
          go_meet
          case rel => exact ⟨true, rfl, rfl, .inl ⟨rfl, HH.out⟩⟩
        · have e2 : ((a.dirty.length : Int) == (b.dirty.length : Int)) = false := by rw [beq_eq_false_iff_ne]; omega
          have HH : Hid (¬ (a.txs = b.txs ∧ a.dirty = b.dirty)) := fun h => h2 (by rw [h.2])
          clear h1 h2
          go_wp2_with fail
          go_meet
          case rel => exact ⟨false, rfl, rfl, .inr ⟨rfl, HH.out⟩⟩
      · have e1 : ((a.txs.length : Int) == (b.txs.length : Int)) = false := by rw [beq_eq_false_iff_ne]; omega
        have HH : Hid (¬ (a.txs = b.txs ∧ a.dirty = b.dirty)) := fun h => h1 (by rw [h.1])
        clear h1
        go_wp2_with fail
        go_meet
        case rel => exact ⟨false, rfl, rfl, .inr ⟨rfl, HH.out⟩⟩
    case rest =>
      obtain ⟨s0, rfl, hwc, HI0⟩ := hcut
      obtain rfl := hwc.symm
      clear hwc
      go_upto_block 0 with fail
      go_cut [7, 8] from 30 to 50 (fun v7 v8 wx => ∃ (s : Bool) (nq : Nat), v7 = .bool s ∧ wx = X0.drewN nq ∧ Hid ((s = true ∧ a.txs = b.txs ∧ a.dirty.length = b.dirty.length) ∨ (s = false ∧ ¬ (a.txs = b.txs ∧ a.dirty = b.dirty))))
      case first =>
        go_wp2_with fail
        go_loopw [7, 8] (fun v7 v8 wr => ∃ (s : Bool) (k nq : Nat), v7 = .bool s ∧ v8 = .int .i64 k ∧ k ≤ a.txs.length ∧ wr = X0.drewN nq ∧ Hid ((s = true ∧ (a.txs.length = b.txs.length ∧ a.dirty.length = b.dirty.length) ∧ a.txs.take k = b.txs.take k) ∨ (s = false ∧ ¬ (a.txs = b.txs ∧ a.dirty = b.dirty)))) (fun _ v8 _ => a.txs.length - (intOf v8).toNat)
        case atStart => exact ⟨s0, 0, 0, rfl, rfl, Nat.zero_le _, rfl, HI0.out.elim (fun h => .inl ⟨h.1, h.2, by simp⟩) .inr⟩
        case round =>
          obtain ⟨s, k, nq0, rfl, rfl, hk, rfl, HI⟩ := hrel
          cases s with
          | false =>
            have HN : Hid (¬ (a.txs = b.txs ∧ a.dirty = b.dirty)) := by rcases HI.out with h | h; cases h.1; exact h.2
            by_cases hlt : k < a.txs.length
            · have d1 : decide ((k : Int) < (a.txs.length : Int)) = true := by simp; omega
              go_wp2_with fail
              go_meet
              case rel => exact ⟨false, nq0, rfl, rfl, .inr ⟨rfl, HN.out⟩⟩
            · have d1 : decide ((k : Int) < (a.txs.length : Int)) = false := by simp; omega
              go_wp2_with fail
              go_meet
              case rel => exact ⟨false, nq0, rfl, rfl, .inr ⟨rfl, HN.out⟩⟩
          | true =>
            have HT : Hid (((a.txs.length = b.txs.length ∧ a.dirty.length = b.dirty.length) ∧ a.txs.take k = b.txs.take k)) := by rcases HI.out with h | h; exact h.2; cases h.1
            clear HI
            by_cases hlt : k < a.txs.length
            · have hlt' : k < b.txs.length := by have := HT.out.1.1; omega
              obtain ⟨b1, o1, rfl, g1⟩ : ∃ b1 o1, ta1 = some ⟨b1, o1, none⟩ ∧ TxAt X0 b1 (o1 + k * 4) a.txs[k] := by
                rcases HP.out.at1 with h | ⟨b1, o1, e, _, h⟩
                · rw [h] at hlt; simp at hlt
                · exact ⟨b1, o1, e, h k hlt⟩
              obtain ⟨b2, o2, rfl, g2⟩ : ∃ b2 o2, tb1 = some ⟨b2, o2, none⟩ ∧ TxAt X0 b2 (o2 + k * 4) b.txs[k] := by
                rcases HP.out.bt1 with h | ⟨b2, o2, e, _, h⟩
                · rw [h] at hlt'; simp at hlt'
                · exact ⟨b2, o2, e, h k hlt'⟩
              have hi0 : (0 : Int) ≤ (k : Int) := by omega
              have hi1 : (k : Int) < (a.txs.length : Int) := by omega
              have hi2 : (k : Int) < (b.txs.length : Int) := by omega
              have d1 : decide ((k : Int) < (a.txs.length : Int)) = true := by simp; omega
              have HT1 : Hid (a.txs[k] = b.txs[k] → a.txs.take (k + 1) = b.txs.take (k + 1)) := take_one HT.out.2 hlt hlt'
              have HT2 : Hid (a.txs[k] ≠ b.txs[k] → ¬ (a.txs = b.txs ∧ a.dirty = b.dirty)) := fun e h => e (by have h' := h.1; congr 1)
              generalize a.txs[k] = t1 at *
              generalize b.txs[k] = t2 at *
              obtain ⟨x1, y1, u1, v1⟩ := t1
              obtain ⟨x2, y2, u2, v2⟩ := t2
              obtain ⟨p0, p1, p2, p3⟩ := g1
              obtain ⟨r0, r1, r2, r3⟩ := g2
              simp only at p0 r0 p1 r1 p2 r2 p3 r3
              by_cases e0 : x1 = x2
              rotate_left
              · have ne0 : (x1 == x2) = false := by rw [beq_eq_false_iff_ne]; omega
                have nf0 : (x1 != x2) = true := by rw [bne_iff_ne]; omega
                have HR' : Hid (¬ (a.txs = b.txs ∧ a.dirty = b.dirty)) := HT2.out (by intro e; apply e0; exact congrArg (fun t : TxV => t.1) e)
                clear HT1 HT2
                go_wp2_with fail
                go_quiet (fail)
                go_wp2
                go_roundw
                case rel => exact ⟨false, k + 1, nq0 + nq, rfl, by go_num, by omega, rfl, .inr ⟨rfl, HR'.out⟩⟩
                case measure => simp [intOf]; omega
              subst e0
              by_cases e1 : y1 = y2
              rotate_left
              · have ne1 : (y1 == y2) = false := by rw [beq_eq_false_iff_ne]; omega
                have nf1 : (y1 != y2) = true := by rw [bne_iff_ne]; omega
                have HR' : Hid (¬ (a.txs = b.txs ∧ a.dirty = b.dirty)) := HT2.out (by intro e; apply e1; exact congrArg (fun t : TxV => t.2.1) e)
                clear HT1 HT2
                go_wp2_with fail
                go_quiet (fail)
                go_wp2
                go_roundw
                case rel => exact ⟨false, k + 1, nq0 + nq, rfl, by go_num, by omega, rfl, .inr ⟨rfl, HR'.out⟩⟩
                case measure => simp [intOf]; omega
              subst e1
              by_cases e2 : u1 = u2
              rotate_left
              · have ne2 : ((u1 : Int) == (u2 : Int)) = false := by rw [beq_eq_false_iff_ne]; omega
                have nf2 : ((u1 : Int) != (u2 : Int)) = true := by rw [bne_iff_ne]; omega
                have HR' : Hid (¬ (a.txs = b.txs ∧ a.dirty = b.dirty)) := HT2.out (by intro e; apply e2; exact congrArg (fun t : TxV => t.2.2.1) e)
                clear HT1 HT2
                go_wp2_with fail
                go_quiet (fail)
                go_wp2
                go_roundw
                case rel => exact ⟨false, k + 1, nq0 + nq, rfl, by go_num, by omega, rfl, .inr ⟨rfl, HR'.out⟩⟩
                case measure => simp [intOf]; omega
              subst e2
              by_cases e3 : v1 = v2
              rotate_left
              · have ne3 : ((v1 : Int) == (v2 : Int)) = false := by rw [beq_eq_false_iff_ne]; omega
                have nf3 : ((v1 : Int) != (v2 : Int)) = true := by rw [bne_iff_ne]; omega
                have HR' : Hid (¬ (a.txs = b.txs ∧ a.dirty = b.dirty)) := HT2.out (by intro e; apply e3; exact congrArg (fun t : TxV => t.2.2.2) e)
                clear HT1 HT2
                go_wp2_with fail
                go_quiet (fail)
                go_wp2
                go_roundw
                case rel => exact ⟨false, k + 1, nq0 + nq, rfl, by go_num, by omega, rfl, .inr ⟨rfl, HR'.out⟩⟩
                case measure => simp [intOf]; omega
              subst e3
              clear HT2
              go_wp2_with fail
              go_quiet (fail)
              go_wp2
              go_roundw
              case rel => exact ⟨true, k + 1, nq0 + nq, rfl, by go_num, by omega, rfl, .inl ⟨rfl, HT.out.1, HT1.out (by first | trivial | rfl)⟩⟩
              case measure => simp [intOf]; omega
            · obtain rfl : k = a.txs.length := by omega
              have d1 : decide (((a.txs.length : Nat) : Int) < (a.txs.length : Int)) = false := by simp
              go_wp2_with fail
              go_meet
              case rel => exact ⟨true, nq0, rfl, rfl, .inl ⟨rfl, by have h := HT.out.2; rw [List.take_length, HT.out.1.1, List.take_length] at h; exact h, HT.out.1.2⟩⟩
      case rest =>
        obtain ⟨s1, nq1, rfl, hwc, HI1⟩ := hcut
        subst hwc
        clear HI0
        go_upto_block 2 with fail
        go_cut [7, 9] from 51 to 71 (fun v7 v8 wx => ∃ (s : Bool) (nq : Nat), v7 = .bool s ∧ wx = X0.drewN nq ∧ Hid ((s = true ∧ a.txs = b.txs ∧ a.dirty = b.dirty) ∨ (s = false ∧ ¬ (a.txs = b.txs ∧ a.dirty = b.dirty))))
        case first =>
          go_wp2_with fail
          go_loopw [7, 9] (fun v7 v8 wr => ∃ (s : Bool) (k nq : Nat), v7 = .bool s ∧ v8 = .int .i64 k ∧ k ≤ a.dirty.length ∧ wr = X0.drewN nq ∧ Hid ((s = true ∧ (a.txs = b.txs ∧ a.dirty.length = b.dirty.length) ∧ a.dirty.take k = b.dirty.take k) ∨ (s = false ∧ ¬ (a.txs = b.txs ∧ a.dirty = b.dirty)))) (fun _ v8 _ => a.dirty.length - (intOf v8).toNat)
          case atStart => exact ⟨s1, 0, nq1, rfl, rfl, Nat.zero_le _, rfl, HI1.out.elim (fun h => .inl ⟨h.1, h.2, by simp⟩) .inr⟩
          case round =>
            obtain ⟨s, k, nq0, rfl, rfl, hk, rfl, HI⟩ := hrel
            cases s with
            | false =>
              have HN : Hid (¬ (a.txs = b.txs ∧ a.dirty = b.dirty)) := by rcases HI.out with h | h; cases h.1; exact h.2
              by_cases hlt : k < a.dirty.length
              · have d1 : decide ((k : Int) < (a.dirty.length : Int)) = true := by simp; omega
                go_wp2_with fail
                go_meet
                case rel => exact ⟨false, nq0, rfl, rfl, .inr ⟨rfl, HN.out⟩⟩
              · have d1 : decide ((k : Int) < (a.dirty.length : Int)) = false := by simp; omega
                go_wp2_with fail
                go_meet
                case rel => exact ⟨false, nq0, rfl, rfl, .inr ⟨rfl, HN.out⟩⟩
            | true =>
              have HT : Hid (((a.txs = b.txs ∧ a.dirty.length = b.dirty.length) ∧ a.dirty.take k = b.dirty.take k)) := by rcases HI.out with h | h; exact h.2; cases h.1
              clear HI
              by_cases hlt : k < a.dirty.length
              · have hlt' : k < b.dirty.length := by have := HT.out.1.2; omega
                obtain ⟨b1, o1, rfl, g1⟩ : ∃ b1 o1, da1 = some ⟨b1, o1, none⟩ ∧ DiAt X0 b1 (o1 + k * 2) a.dirty[k] := by
                  rcases HP.out.at2 with h | ⟨b1, o1, e, _, h⟩
                  · rw [h] at hlt; simp at hlt
                  · exact ⟨b1, o1, e, h k hlt⟩
                obtain ⟨b2, o2, rfl, g2⟩ : ∃ b2 o2, db1 = some ⟨b2, o2, none⟩ ∧ DiAt X0 b2 (o2 + k * 2) b.dirty[k] := by
                  rcases HP.out.bt2 with h | ⟨b2, o2, e, _, h⟩
                  · rw [h] at hlt'; simp at hlt'
                  · exact ⟨b2, o2, e, h k hlt'⟩
                have hi0 : (0 : Int) ≤ (k : Int) := by omega
                have hi1 : (k : Int) < (a.dirty.length : Int) := by omega
                have hi2 : (k : Int) < (b.dirty.length : Int) := by omega
                have d1 : decide ((k : Int) < (a.dirty.length : Int)) = true := by simp; omega
                have HT1 : Hid (a.dirty[k] = b.dirty[k] → a.dirty.take (k + 1) = b.dirty.take (k + 1)) := take_one HT.out.2 hlt hlt'
                have HT2 : Hid (a.dirty[k] ≠ b.dirty[k] → ¬ (a.txs = b.txs ∧ a.dirty = b.dirty)) := fun e h => e (by have h' := h.2; congr 1)
                generalize a.dirty[k] = t1 at *
                generalize b.dirty[k] = t2 at *
                obtain ⟨x1, u1⟩ := t1
                obtain ⟨x2, u2⟩ := t2
                obtain ⟨p0, p1⟩ := g1
                obtain ⟨r0, r1⟩ := g2
                simp only at p0 r0 p1 r1
                by_cases e0 : x1 = x2
                rotate_left
                · have ne0 : ((x1 : Int) == (x2 : Int)) = false := by rw [beq_eq_false_iff_ne]; omega
                  have nf0 : ((x1 : Int) != (x2 : Int)) = true := by rw [bne_iff_ne]; omega
                  have HR' : Hid (¬ (a.txs = b.txs ∧ a.dirty = b.dirty)) := HT2.out (by intro e; apply e0; exact congrArg (fun t : DiV => t.1) e)
                  clear HT1 HT2
                  go_wp2_with fail
                  go_quiet (fail)
                  go_wp2
                  go_roundw
                  case rel => exact ⟨false, k + 1, nq0 + nq, rfl, by go_num, by omega, rfl, .inr ⟨rfl, HR'.out⟩⟩
                  case measure => simp [intOf]; omega
                subst e0
                by_cases e1 : u1 = u2
                rotate_left
                · have ne1 : ((u1 : Int) == (u2 : Int)) = false := by rw [beq_eq_false_iff_ne]; omega
                  have nf1 : ((u1 : Int) != (u2 : Int)) = true := by rw [bne_iff_ne]; omega
                  have HR' : Hid (¬ (a.txs = b.txs ∧ a.dirty = b.dirty)) := HT2.out (by intro e; apply e1; exact congrArg (fun t : DiV => t.2) e)
                  clear HT1 HT2
                  go_wp2_with fail
                  go_quiet (fail)
                  go_wp2
                  go_roundw
                  case rel => exact ⟨false, k + 1, nq0 + nq, rfl, by go_num, by omega, rfl, .inr ⟨rfl, HR'.out⟩⟩
                  case measure => simp [intOf]; omega
                subst e1
                clear HT2
                go_wp2_with fail
                go_quiet (fail)
                go_wp2
                go_roundw
                case rel => exact ⟨true, k + 1, nq0 + nq, rfl, by go_num, by omega, rfl, .inl ⟨rfl, HT.out.1, HT1.out (by first | trivial | rfl)⟩⟩
                case measure => simp [intOf]; omega
              · obtain rfl : k = a.dirty.length := by omega
                have d1 : decide (((a.dirty.length : Nat) : Int) < (a.dirty.length : Int)) = false := by simp
                go_wp2_with fail
                go_meet
                case rel => exact ⟨true, nq0, rfl, rfl, .inl ⟨rfl, HT.out.1.1, by have h := HT.out.2; rw [List.take_length, HT.out.1.2, List.take_length] at h; exact h⟩⟩
        case rest =>
          obtain ⟨s2, nq2, rfl, hwc, HI2⟩ := hcut
          subst hwc
          clear HI1
          have HPV := hidr (HP.out.below (below_drewN (Below.refl _ _) nq2))
          clear HP
          generalize X0.drewN nq2 = V at *
          have a0to := out_cells (r := a) (v := .slice ta1 a.txs.length tc1) (u := .slice da1 a.dirty.length dc1) HPV.out.xa
          have b0to := out_cells (r := b) (v := .slice tb1 b.txs.length uc1) (u := .slice db1 b.dirty.length vc1) HPV.out.xb
          obtain ⟨A0, A1, A2, A3, A4, A5, A6, A7, A8, A9, A10, A11, A12, A13, A14, A15, A16⟩ := a0to
          obtain ⟨B0, B1, B2, B3, B4, B5, B6, B7, B8, B9, B10, B11, B12, B13, B14, B15, B16⟩ := b0to
          clear a15 a16 b15 b16
          have gA0 := cell_regrown A0
          have gA1 := cell_regrown A1
          have gA2 := cell_regrown A2
          have gA3 := cell_regrown A3
          have gA4 := cell_regrown A4
          have gA5 := cell_regrown A5
          have gA6 := cell_regrown A6
          have gA7 := cell_regrown A7
          have gA8 := cell_regrown A8
          have gA9 := cell_regrown A9
          have gA10 := cell_regrown A10
          have gA11 := cell_regrown A11
          have gA12 := cell_regrown A12
          have gA13 := cell_regrown A13
          have gA14 := cell_regrown A14
          have gB0 := cell_regrown B0
          have gB1 := cell_regrown B1
          have gB2 := cell_regrown B2
          have gB3 := cell_regrown B3
          have gB4 := cell_regrown B4
          have gB5 := cell_regrown B5
          have gB6 := cell_regrown B6
          have gB7 := cell_regrown B7
          have gB8 := cell_regrown B8
          have gB9 := cell_regrown B9
          have gB10 := cell_regrown B10
          have gB11 := cell_regrown B11
          have gB12 := cell_regrown B12
          have gB13 := cell_regrown B13
          have gB14 := cell_regrown B14
          clear A0 A1 A2 A3 A4 A5 A6 A7 A8 A9 A10 A11 A12 A13 A14 A15 A16 B0 B1 B2 B3 B4 B5 B6 B7 B8 B9 B10 B11 B12 B13 B14 B15 B16
          go_upto_region 11 with fail
          simp only [List.append]
          go_cut [7] from 72 to 156 (fun v wx => v = .bool (sameR a b) ∧ Hid (Below V.heap.size V wx))
          case first =>
            cases s2 with
            | false =>
              have HR' : Hid (sameR a b = false) := by
                have hn : ¬ (a.txs = b.txs ∧ a.dirty = b.dirty) := by rcases HI2.out with h | h; cases h.1; exact h.2
                show _ = _
                cases hs : sameR a b with
                | false => rfl
                | true =>
                  unfold sameR at hs
                  simp only [Bool.and_eq_true, decide_eq_true_eq] at hs
                  exact absurd ⟨hs.1.2, hs.2⟩ hn
              refine wp_plain_below ?_
              repeat (first | go_big_quiet_step (fail) | quiet_step (fail))
              refine wpQuiet_nil ?_
              intro _ hw'
              obtain ⟨⟨dq, osq⟩, hw''⟩ := hw'
              subst hw''
              have hbx : Hid (Below V.heap.size V (grow (redrawn V dq) osq)) := below_regrown V dq osq
              generalize grow (redrawn V dq) osq = XX at *
              go_wp2_with fail
              go_meet
              case rel => exact ⟨by rw [HR'.out], hbx⟩
            | true =>
              have hTD : a.txs = b.txs ∧ a.dirty = b.dirty := by rcases HI2.out with h | h; exact h.2; cases h.1
              clear HI2 HPV HOA HOB HLA HLB la1 la2 lb1 lb2
              obtain ⟨k1, t1, p1, n1, g1, ⟨ok1, oa1, oS1, oT1⟩, u1, i1, ky1, rp1, rs1, lv1, T1, D1⟩ := a
              obtain ⟨k2, t2, p2, n2, g2, ⟨ok2, oa2, oS2, oT2⟩, u2, i2, ky2, rp2, rs2, lv2, T2, D2⟩ := b
              obtain ⟨hT, hD⟩ := hTD
              simp only at hT hD gA0 gA1 gA2 gA3 gA4 gA5 gA6 gA7 gA8 gA9 gA10 gA11 gA12 gA13 gA14 gB0 gB1 gB2 gB3 gB4 gB5 gB6 gB7 gB8 gB9 gB10 gB11 gB12 gB13 gB14
              subst hT
              subst hD
              by_cases e : k1 = k2
              rotate_left
              · have HR' : Hid (sameR ⟨k1, t1, p1, n1, g1, ⟨ok1, oa1, oS1, oT1⟩, u1, i1, ky1, rp1, rs1, lv1, T1, D1⟩ ⟨k2, t2, p2, n2, g2, ⟨ok2, oa2, oS2, oT2⟩, u2, i2, ky2, rp2, rs2, lv2, T1, D1⟩ = false) := by show _ = _; unfold sameR; simp [e]
                have ne1 : (k1 == k2) = false := by rw [beq_eq_false_iff_ne]; exact e
                refine wp_plain_below ?_
                repeat (first | go_big_quiet_step (fail) | quiet_step (fail))
                refine wpQuiet_nil ?_
                intro _ hw'
                obtain ⟨⟨dq, osq⟩, hw''⟩ := hw'
                subst hw''
                have hbx : Hid (Below V.heap.size V (grow (redrawn V dq) osq)) := below_regrown V dq osq
                generalize grow (redrawn V dq) osq = XX at *
                go_wp2_with fail
                go_meet
                case rel => exact ⟨by rw [HR'.out], hbx⟩
              subst e
              by_cases e : t1 = t2
              rotate_left
              · have HR' : Hid (sameR ⟨k1, t1, p1, n1, g1, ⟨ok1, oa1, oS1, oT1⟩, u1, i1, ky1, rp1, rs1, lv1, T1, D1⟩ ⟨k1, t2, p2, n2, g2, ⟨ok2, oa2, oS2, oT2⟩, u2, i2, ky2, rp2, rs2, lv2, T1, D1⟩ = false) := by show _ = _; unfold sameR; simp [e]
                have ne1 : (t1 == t2) = false := by rw [beq_eq_false_iff_ne]; exact e
                refine wp_plain_below ?_
                repeat (first | go_big_quiet_step (fail) | quiet_step (fail))
                refine wpQuiet_nil ?_
                intro _ hw'
                obtain ⟨⟨dq, osq⟩, hw''⟩ := hw'
                subst hw''
                have hbx : Hid (Below V.heap.size V (grow (redrawn V dq) osq)) := below_regrown V dq osq
                generalize grow (redrawn V dq) osq = XX at *
                go_wp2_with fail
                go_meet
                case rel => exact ⟨by rw [HR'.out], hbx⟩
              subst e
              by_cases e : p1 = p2
              rotate_left
              · have HR' : Hid (sameR ⟨k1, t1, p1, n1, g1, ⟨ok1, oa1, oS1, oT1⟩, u1, i1, ky1, rp1, rs1, lv1, T1, D1⟩ ⟨k1, t1, p2, n2, g2, ⟨ok2, oa2, oS2, oT2⟩, u2, i2, ky2, rp2, rs2, lv2, T1, D1⟩ = false) := by show _ = _; unfold sameR; simp [e]
                have ne1 : ((p1 : Int) == (p2 : Int)) = false := by rw [beq_eq_false_iff_ne]; omega
                have ne2 : ¬ (p1 : Int) = (p2 : Int) := by omega
                refine wp_plain_below ?_
                repeat (first | go_big_quiet_step (fail) | quiet_step (fail))
                refine wpQuiet_nil ?_
                intro _ hw'
                obtain ⟨⟨dq, osq⟩, hw''⟩ := hw'
                subst hw''
                have hbx : Hid (Below V.heap.size V (grow (redrawn V dq) osq)) := below_regrown V dq osq
                generalize grow (redrawn V dq) osq = XX at *
                go_wp2_with fail
                go_meet
                case rel => exact ⟨by rw [HR'.out], hbx⟩
              subst e
              by_cases e : n1 = n2
              rotate_left
              · have HR' : Hid (sameR ⟨k1, t1, p1, n1, g1, ⟨ok1, oa1, oS1, oT1⟩, u1, i1, ky1, rp1, rs1, lv1, T1, D1⟩ ⟨k1, t1, p1, n2, g2, ⟨ok2, oa2, oS2, oT2⟩, u2, i2, ky2, rp2, rs2, lv2, T1, D1⟩ = false) := by show _ = _; unfold sameR; simp [e]
                have ne1 : ((n1 : Int) == (n2 : Int)) = false := by rw [beq_eq_false_iff_ne]; omega
                have ne2 : ¬ (n1 : Int) = (n2 : Int) := by omega
                refine wp_plain_below ?_
                repeat (first | go_big_quiet_step (fail) | quiet_step (fail))
                refine wpQuiet_nil ?_
                intro _ hw'
                obtain ⟨⟨dq, osq⟩, hw''⟩ := hw'
                subst hw''
                have hbx : Hid (Below V.heap.size V (grow (redrawn V dq) osq)) := below_regrown V dq osq
                generalize grow (redrawn V dq) osq = XX at *
                go_wp2_with fail
                go_meet
                case rel => exact ⟨by rw [HR'.out], hbx⟩
              subst e
              by_cases e : g1 = g2
              rotate_left
              · have HR' : Hid (sameR ⟨k1, t1, p1, n1, g1, ⟨ok1, oa1, oS1, oT1⟩, u1, i1, ky1, rp1, rs1, lv1, T1, D1⟩ ⟨k1, t1, p1, n1, g2, ⟨ok2, oa2, oS2, oT2⟩, u2, i2, ky2, rp2, rs2, lv2, T1, D1⟩ = false) := by show _ = _; unfold sameR; simp [e]
                have ne1 : ((g1 : Int) == (g2 : Int)) = false := by rw [beq_eq_false_iff_ne]; omega
                have ne2 : ¬ (g1 : Int) = (g2 : Int) := by omega
                refine wp_plain_below ?_
                repeat (first | go_big_quiet_step (fail) | quiet_step (fail))
                refine wpQuiet_nil ?_
                intro _ hw'
                obtain ⟨⟨dq, osq⟩, hw''⟩ := hw'
                subst hw''
                have hbx : Hid (Below V.heap.size V (grow (redrawn V dq) osq)) := below_regrown V dq osq
                generalize grow (redrawn V dq) osq = XX at *
                go_wp2_with fail
                go_meet
                case rel => exact ⟨by rw [HR'.out], hbx⟩
              subst e
              by_cases e : ok1 = ok2
              rotate_left
              · have HR' : Hid (sameR ⟨k1, t1, p1, n1, g1, ⟨ok1, oa1, oS1, oT1⟩, u1, i1, ky1, rp1, rs1, lv1, T1, D1⟩ ⟨k1, t1, p1, n1, g1, ⟨ok2, oa2, oS2, oT2⟩, u2, i2, ky2, rp2, rs2, lv2, T1, D1⟩ = false) := by show _ = _; unfold sameR; simp [e]
                have ne1 : (ok1 == ok2) = false := by rw [beq_eq_false_iff_ne]; exact e
                refine wp_plain_below ?_
                repeat (first | go_big_quiet_step (fail) | quiet_step (fail))
                refine wpQuiet_nil ?_
                intro _ hw'
                obtain ⟨⟨dq, osq⟩, hw''⟩ := hw'
                subst hw''
                have hbx : Hid (Below V.heap.size V (grow (redrawn V dq) osq)) := below_regrown V dq osq
                generalize grow (redrawn V dq) osq = XX at *
                go_wp2_with fail
                go_meet
                case rel => exact ⟨by rw [HR'.out], hbx⟩
              subst e
              by_cases e : oa1 = oa2
              rotate_left
              · have HR' : Hid (sameR ⟨k1, t1, p1, n1, g1, ⟨ok1, oa1, oS1, oT1⟩, u1, i1, ky1, rp1, rs1, lv1, T1, D1⟩ ⟨k1, t1, p1, n1, g1, ⟨ok1, oa2, oS2, oT2⟩, u2, i2, ky2, rp2, rs2, lv2, T1, D1⟩ = false) := by show _ = _; unfold sameR; simp [e]
                have ne1 : (oa1 == oa2) = false := by rw [beq_eq_false_iff_ne]; exact e
                refine wp_plain_below ?_
                repeat (first | go_big_quiet_step (fail) | quiet_step (fail))
                refine wpQuiet_nil ?_
                intro _ hw'
                obtain ⟨⟨dq, osq⟩, hw''⟩ := hw'
                subst hw''
                have hbx : Hid (Below V.heap.size V (grow (redrawn V dq) osq)) := below_regrown V dq osq
                generalize grow (redrawn V dq) osq = XX at *
                go_wp2_with fail
                go_meet
                case rel => exact ⟨by rw [HR'.out], hbx⟩
              subst e
              by_cases e : oS1 = oS2
              rotate_left
              · have HR' : Hid (sameR ⟨k1, t1, p1, n1, g1, ⟨ok1, oa1, oS1, oT1⟩, u1, i1, ky1, rp1, rs1, lv1, T1, D1⟩ ⟨k1, t1, p1, n1, g1, ⟨ok1, oa1, oS2, oT2⟩, u2, i2, ky2, rp2, rs2, lv2, T1, D1⟩ = false) := by show _ = _; unfold sameR; simp [e]
                have ne1 := str_ne e
                have ne2 : ¬ oS1.toList = oS2.toList := by rw [beq_eq_false_iff_ne] at ne1; exact ne1
                refine wp_plain_below ?_
                repeat (first | go_big_quiet_step (fail) | quiet_step (fail))
                refine wpQuiet_nil ?_
                intro _ hw'
                obtain ⟨⟨dq, osq⟩, hw''⟩ := hw'
                subst hw''
                have hbx : Hid (Below V.heap.size V (grow (redrawn V dq) osq)) := below_regrown V dq osq
                generalize grow (redrawn V dq) osq = XX at *
                go_wp2_with fail
                go_meet
                case rel => exact ⟨by rw [HR'.out], hbx⟩
              subst e
              by_cases e : oT1 = oT2
              rotate_left
              · have HR' : Hid (sameR ⟨k1, t1, p1, n1, g1, ⟨ok1, oa1, oS1, oT1⟩, u1, i1, ky1, rp1, rs1, lv1, T1, D1⟩ ⟨k1, t1, p1, n1, g1, ⟨ok1, oa1, oS1, oT2⟩, u2, i2, ky2, rp2, rs2, lv2, T1, D1⟩ = false) := by show _ = _; unfold sameR; simp [e]
                have ne1 := str_ne e
                have ne2 : ¬ oT1.toList = oT2.toList := by rw [beq_eq_false_iff_ne] at ne1; exact ne1
                refine wp_plain_below ?_
                repeat (first | go_big_quiet_step (fail) | quiet_step (fail))
                refine wpQuiet_nil ?_
                intro _ hw'
                obtain ⟨⟨dq, osq⟩, hw''⟩ := hw'
                subst hw''
                have hbx : Hid (Below V.heap.size V (grow (redrawn V dq) osq)) := below_regrown V dq osq
                generalize grow (redrawn V dq) osq = XX at *
                go_wp2_with fail
                go_meet
                case rel => exact ⟨by rw [HR'.out], hbx⟩
              subst e
              by_cases e : u1 = u2
              rotate_left
              · have HR' : Hid (sameR ⟨k1, t1, p1, n1, g1, ⟨ok1, oa1, oS1, oT1⟩, u1, i1, ky1, rp1, rs1, lv1, T1, D1⟩ ⟨k1, t1, p1, n1, g1, ⟨ok1, oa1, oS1, oT1⟩, u2, i2, ky2, rp2, rs2, lv2, T1, D1⟩ = false) := by show _ = _; unfold sameR; simp [e]
                have ne1 : (u1 == u2) = false := by rw [beq_eq_false_iff_ne]; exact e
                refine wp_plain_below ?_
                repeat (first | go_big_quiet_step (fail) | quiet_step (fail))
                refine wpQuiet_nil ?_
                intro _ hw'
                obtain ⟨⟨dq, osq⟩, hw''⟩ := hw'
                subst hw''
                have hbx : Hid (Below V.heap.size V (grow (redrawn V dq) osq)) := below_regrown V dq osq
                generalize grow (redrawn V dq) osq = XX at *
                go_wp2_with fail
                go_meet
                case rel => exact ⟨by rw [HR'.out], hbx⟩
              subst e
              by_cases e : i1 = i2
              rotate_left
              · have HR' : Hid (sameR ⟨k1, t1, p1, n1, g1, ⟨ok1, oa1, oS1, oT1⟩, u1, i1, ky1, rp1, rs1, lv1, T1, D1⟩ ⟨k1, t1, p1, n1, g1, ⟨ok1, oa1, oS1, oT1⟩, u1, i2, ky2, rp2, rs2, lv2, T1, D1⟩ = false) := by show _ = _; unfold sameR; simp [e]
                have ne1 : (i1 == i2) = false := by rw [beq_eq_false_iff_ne]; exact e
                refine wp_plain_below ?_
                repeat (first | go_big_quiet_step (fail) | quiet_step (fail))
                refine wpQuiet_nil ?_
                intro _ hw'
                obtain ⟨⟨dq, osq⟩, hw''⟩ := hw'
                subst hw''
                have hbx : Hid (Below V.heap.size V (grow (redrawn V dq) osq)) := below_regrown V dq osq
                generalize grow (redrawn V dq) osq = XX at *
                go_wp2_with fail
                go_meet
                case rel => exact ⟨by rw [HR'.out], hbx⟩
              subst e
              by_cases e : ky1 = ky2
              rotate_left
              · have HR' : Hid (sameR ⟨k1, t1, p1, n1, g1, ⟨ok1, oa1, oS1, oT1⟩, u1, i1, ky1, rp1, rs1, lv1, T1, D1⟩ ⟨k1, t1, p1, n1, g1, ⟨ok1, oa1, oS1, oT1⟩, u1, i1, ky2, rp2, rs2, lv2, T1, D1⟩ = false) := by show _ = _; unfold sameR; simp [e]
                have ne1 := str_ne e
                have ne2 : ¬ ky1.toList = ky2.toList := by rw [beq_eq_false_iff_ne] at ne1; exact ne1
                refine wp_plain_below ?_
                repeat (first | go_big_quiet_step (fail) | quiet_step (fail))
                refine wpQuiet_nil ?_
                intro _ hw'
                obtain ⟨⟨dq, osq⟩, hw''⟩ := hw'
                subst hw''
                have hbx : Hid (Below V.heap.size V (grow (redrawn V dq) osq)) := below_regrown V dq osq
                generalize grow (redrawn V dq) osq = XX at *
                go_wp2_with fail
                go_meet
                case rel => exact ⟨by rw [HR'.out], hbx⟩
              subst e
              by_cases e : rp1 = rp2
              rotate_left
              · have HR' : Hid (sameR ⟨k1, t1, p1, n1, g1, ⟨ok1, oa1, oS1, oT1⟩, u1, i1, ky1, rp1, rs1, lv1, T1, D1⟩ ⟨k1, t1, p1, n1, g1, ⟨ok1, oa1, oS1, oT1⟩, u1, i1, ky1, rp2, rs2, lv2, T1, D1⟩ = false) := by show _ = _; unfold sameR; simp [e]
                have ne1 : ((rp1 : Int) == (rp2 : Int)) = false := by rw [beq_eq_false_iff_ne]; omega
                have ne2 : ¬ (rp1 : Int) = (rp2 : Int) := by omega
                refine wp_plain_below ?_
                repeat (first | go_big_quiet_step (fail) | quiet_step (fail))
                refine wpQuiet_nil ?_
                intro _ hw'
                obtain ⟨⟨dq, osq⟩, hw''⟩ := hw'
                subst hw''
                have hbx : Hid (Below V.heap.size V (grow (redrawn V dq) osq)) := below_regrown V dq osq
                generalize grow (redrawn V dq) osq = XX at *
                go_wp2_with fail
                go_meet
                case rel => exact ⟨by rw [HR'.out], hbx⟩
              subst e
              by_cases e : rs1 = rs2
              rotate_left
              · have HR' : Hid (sameR ⟨k1, t1, p1, n1, g1, ⟨ok1, oa1, oS1, oT1⟩, u1, i1, ky1, rp1, rs1, lv1, T1, D1⟩ ⟨k1, t1, p1, n1, g1, ⟨ok1, oa1, oS1, oT1⟩, u1, i1, ky1, rp1, rs2, lv2, T1, D1⟩ = false) := by show _ = _; unfold sameR; simp [e]
                have ne1 : (rs1 == rs2) = false := by rw [beq_eq_false_iff_ne]; exact e
                refine wp_plain_below ?_
                repeat (first | go_big_quiet_step (fail) | quiet_step (fail))
                refine wpQuiet_nil ?_
                intro _ hw'
                obtain ⟨⟨dq, osq⟩, hw''⟩ := hw'
                subst hw''
                have hbx : Hid (Below V.heap.size V (grow (redrawn V dq) osq)) := below_regrown V dq osq
                generalize grow (redrawn V dq) osq = XX at *
                go_wp2_with fail
                go_meet
                case rel => exact ⟨by rw [HR'.out], hbx⟩
              subst e
              by_cases e : lv1 = lv2
              rotate_left
              · have HR' : Hid (sameR ⟨k1, t1, p1, n1, g1, ⟨ok1, oa1, oS1, oT1⟩, u1, i1, ky1, rp1, rs1, lv1, T1, D1⟩ ⟨k1, t1, p1, n1, g1, ⟨ok1, oa1, oS1, oT1⟩, u1, i1, ky1, rp1, rs1, lv2, T1, D1⟩ = false) := by show _ = _; unfold sameR; simp [e]
                have ne1 : (lv1 == lv2) = false := by rw [beq_eq_false_iff_ne]; exact e
                refine wp_plain_below ?_
                repeat (first | go_big_quiet_step (fail) | quiet_step (fail))
                refine wpQuiet_nil ?_
                intro _ hw'
                obtain ⟨⟨dq, osq⟩, hw''⟩ := hw'
                subst hw''
                have hbx : Hid (Below V.heap.size V (grow (redrawn V dq) osq)) := below_regrown V dq osq
                generalize grow (redrawn V dq) osq = XX at *
                go_wp2_with fail
                go_meet
                case rel => exact ⟨by rw [HR'.out], hbx⟩
              subst e
              have HR' : Hid (sameR ⟨k1, t1, p1, n1, g1, ⟨ok1, oa1, oS1, oT1⟩, u1, i1, ky1, rp1, rs1, lv1, T1, D1⟩ ⟨k1, t1, p1, n1, g1, ⟨ok1, oa1, oS1, oT1⟩, u1, i1, ky1, rp1, rs1, lv1, T1, D1⟩ = true) := by show _ = _; unfold sameR; simp
              refine wp_plain_below ?_
              repeat (first | go_big_quiet_step (fail) | quiet_step (fail))
              refine wpQuiet_nil ?_
              intro _ hw'
              obtain ⟨⟨dq, osq⟩, hw''⟩ := hw'
              subst hw''
              have hbx : Hid (Below V.heap.size V (grow (redrawn V dq) osq)) := below_regrown V dq osq
              generalize grow (redrawn V dq) osq = XX at *
              go_wp2_with fail
              go_meet
              case rel => exact ⟨by rw [HR'.out], hbx⟩
          case rest =>
            obtain ⟨rfl, HBV⟩ := hcut
            clear gA0 gA1 gA2 gA3 gA4 gA5 gA6 gA7 gA8 gA9 gA10 gA11 gA12 gA13 gA14 gB0 gB1 gB2 gB3 gB4 gB5 gB6 gB7 gB8 gB9 gB10 gB11 gB12 gB13 gB14 HI2
            have HPZ := hidr (HPV.out.below HBV.out)
            clear HPV HBV
            generalize wc = Z at *
            have HS1 : Hid (∀ wx, Below w.heap.size w wx → Calls Try.prog 15 #[.agg (a.cells ta da tc dc), .agg (b.cells tb db uc vc)] wx fun e w' => e = .returned (.bool (sameR a b)) ∧ Below wx.heap.size wx w') := fun wx k => recSame_any a b ta da tb db tc dc uc vc wx (HOA.out.below k) (HOB.out.below k)
            have haa : sameR a a = true := by unfold sameR; simp
            have HS2 : Hid (∀ wx, Below w.heap.size w wx → Calls Try.prog 15 #[.agg (a.cells ta da tc dc), .agg (a.cells ta da tc dc)] wx fun e w' => e = .returned (.bool true) ∧ Below wx.heap.size wx w') := fun wx k => by have := recSame_any a a ta da ta da tc dc tc dc wx (HOA.out.below k) (HOA.out.below k); rw [haa] at this; exact this
            generalize sameR a b = R at *
            have cA : ∀ dd os, Calls Try.prog 11 #[] (grow (redrawn Z dd) os) fun e w'' => e = .returned (.bool true) ∧ ∃ p : Regrown, w'' = grow (redrawn Z p.d) p.os := fun dd os => Calls.regrown_of (rawake_any _)
            have cS1 : ∀ dd os, Calls Try.prog 15 #[.agg (a.cells ta da tc dc), .agg (b.cells tb db uc vc)] (grow (redrawn Z dd) os) fun e w'' => e = .returned (.bool R) ∧ ∃ p : Regrown, w'' = grow (redrawn Z p.d) p.os := fun dd os => Calls.regrown_of (HS1.out _ (below_chain HPZ.out.bel (below_regrown Z dd os)))
            have cS2 : ∀ dd os, Calls Try.prog 15 #[.agg (a.cells ta da tc dc), .agg (a.cells ta da tc dc)] (grow (redrawn Z dd) os) fun e w'' => e = .returned (.bool true) ∧ ∃ p : Regrown, w'' = grow (redrawn Z p.d) p.os := fun dd os => Calls.regrown_of (HS2.out _ (below_chain HPZ.out.bel (below_regrown Z dd os)))
            have hrr : (R == R) = true := by simp
            go_upto_region 12 with fail
            refine wp_plain_below ?_
            go_big_quiet_step ((go_at_call 11; exact cA _ _))
            go_big_quiet_step (fail)
            refine wpQuiet_loadRowG (by rfl) _ _ rfl w.heap.size rfl (a.cells ta da tc dc) _ (0, 0) HPZ.out.pa _ Try.underlying35 rfl (by kernel_rfl) ?_
            try simp only [Act.put, List.setIfInBounds_toArray, List.set_cons_zero, List.set_cons_succ]
            refine wpQuiet_loadRowG (by rfl) _ _ rfl (w.heap.size + 1) rfl (b.cells tb db uc vc) _ (0, 0) HPZ.out.pb _ Try.underlying35 rfl (by kernel_rfl) ?_
            try simp only [Act.put, List.setIfInBounds_toArray, List.set_cons_zero, List.set_cons_succ]
            go_big_quiet_step ((go_at_call 15; exact cS1 _ _))
            iterate 4 (first | go_big_quiet_step (fail) | quiet_step (fail))
            refine wpQuiet_loadRowG (by rfl) _ _ rfl w.heap.size rfl (a.cells ta da tc dc) _ (0, 0) HPZ.out.pa _ Try.underlying35 rfl (by kernel_rfl) ?_
            try simp only [Act.put, List.setIfInBounds_toArray, List.set_cons_zero, List.set_cons_succ]
            refine wpQuiet_loadRowG (by rfl) _ _ rfl w.heap.size rfl (a.cells ta da tc dc) _ (0, 0) HPZ.out.pa _ Try.underlying35 rfl (by kernel_rfl) ?_
            try simp only [Act.put, List.setIfInBounds_toArray, List.set_cons_zero, List.set_cons_succ]
            go_big_quiet_step ((go_at_call 15; exact cS2 _ _))
            repeat (first | go_big_quiet_step (fail) | quiet_step (fail))
            refine wpQuiet_nil ?_
            intro _ hw'
            obtain ⟨⟨dq, osq⟩, hw''⟩ := hw'
            subst hw''
            have HBF : Hid (Below w.heap.size w (grow (redrawn Z dq) osq)) := below_chain HPZ.out.bel (below_regrown Z dq osq)
            generalize grow (redrawn Z dq) osq = ZZ at *
            go_wp2_with fail
            go_ret
            exact ⟨rfl, HBF.out⟩

end Go.Proofs.Ytdkjbnnldbmkmaa
