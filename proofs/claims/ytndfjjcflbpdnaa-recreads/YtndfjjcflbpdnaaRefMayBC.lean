/-
  The walk of girderref04.May.
-/
import Derived.Test.YtndfjjcflbpdnaaBase6C
namespace Go.Proofs.Ytndfjjcflbpdnaa
open Go.RowKit Go.Sort
set_option linter.unusedVariables false
set_option linter.unusedSimpArgs false

set_option maxHeartbeats 3200000 in
set_option maxRecDepth 8000 in
theorem rmay_notx (r : RecV) (ta da : Option Addr) (tc dc : Nat) (w : World) (h : r.Ok w ta da) (hx : txB r.tx = false) :
    Calls Try.prog 10 #[.agg (r.cells ta da tc dc)] w fun e w' => e = .returned (.bool (rmayB r)) ∧ Below w.heap.size w w' := by
  obtain ⟨R, HR⟩ : ∃ R, Hid (rmayB r = R) := ⟨_, rfl⟩
  rw [HR.out]
  obtain ⟨W, HW⟩ : ∃ W, Hid (W = w.alloc (.cells (r.cells ta da tc dc) 43)) := ⟨_, rfl⟩
  have HB : Hid (Below w.heap.size w W ∧ w.heap.size < W.heap.size ∧ BlkR W w.heap.size (r.cells ta da tc dc) 43) := by rw [HW.out]; exact ⟨(Below.refl _ _).alloc (Nat.le_refl _) _, by simp, heap_alloc_new w _⟩
  have HPAR : Hid (r.cells ta da tc dc = #[.int .i64 r.kind, .int .i64 r.tx, .int .u64 r.prev, .int .u64 r.next, .int .u32 r.page, .int .i64 r.op.kind, .int .i64 r.op.at', .string r.op.S, .string r.op.old, .int .i64 r.undo, .int .i64 r.index, .string r.key, .int .u32 r.rpage, .int .i64 r.rslot, .bool r.live, .slice ta r.txs.length tc, .slice da r.dirty.length dc]) := rfl
  have htl := h.tlen
  have hdl := h.dlen
  have hnx := h.next
  have HTX := hidr h.txs
  have HU : Hid (∀ n wx, Calls Try.prog 31 #[.int .i64 n] wx fun e w' => e = .returned (.bool (txB n)) ∧ w' = wx) := fun n wx => rtx_any n wx
  have HCH : Hid (∀ wx, Calls Try.prog 32 #[.agg (r.cells ta da tc dc)] wx fun e w' => e = .returned (.bool (rchangeB r)) ∧ Below wx.heap.size wx w') := fun wx => rchange_any r (.slice ta r.txs.length tc) (.slice da r.dirty.length dc) wx h.op h.key h.page h.rpage
  have HBA : Hid (∀ wx, Calls Try.prog 33 #[.agg (r.cells ta da tc dc)] wx fun e w' => e = .returned (.bool (bareB r)) ∧ Below wx.heap.size wx w') := fun wx => rbare_any r (.slice ta r.txs.length tc) (.slice da r.dirty.length dc) wx
  clear h
  unfold rmayB at HR
  have HX : Hid (txB r.tx = false) := hx
  clear hx
  obtain ⟨C, HC⟩ : ∃ C, Hid (rchangeB r = C) := ⟨_, rfl⟩
  obtain ⟨Y, HY⟩ : ∃ Y, Hid (bareB r = Y) := ⟨_, rfl⟩
  rw [HX.out, HC.out, HY.out] at HR
  rw [HC.out] at HCH
  rw [HY.out] at HBA
  have HU0 : Hid (∀ wx, Calls Try.prog 31 #[.int .i64 r.tx] wx fun e w' => e = .returned (.bool false) ∧ w' = wx) := fun wx => by
    have := HU.out r.tx wx
    rw [HX.out] at this
    exact this
  clear HX HC HY
  rw [HPAR.out]
  go_enter Try.func10, Try.ntmps10
  go_upto_region 1 with fail
  rw [← HPAR.out, show w.alloc (.cells (r.cells ta da tc dc) 43) = W from HW.out.symm]
  have z0 : W.cell? ⟨w.heap.size, 0, none⟩ = some (.int .i64 r.kind) := HB.out.2.2.cell 0
  have z1 : W.cell? ⟨w.heap.size, 1, none⟩ = some (.int .i64 r.tx) := HB.out.2.2.cell 1
  have z3 : W.cell? ⟨w.heap.size, 3, none⟩ = some (.int .u64 r.next) := HB.out.2.2.cell 3
  have z15 : W.cell? ⟨w.heap.size, 15, none⟩ = some (.slice ta r.txs.length tc) := HB.out.2.2.cell 15
  have z16 : W.cell? ⟨w.heap.size, 16, none⟩ = some (.slice da r.dirty.length dc) := HB.out.2.2.cell 16
  clear HW HPAR
  go_wp2_with fail
  refine (HU0.out _).mono ?_
  rintro e w1 ⟨rfl, hw1⟩
  subst hw1
  have hR : R = false := by rw [← HR.out]; rfl
  subst hR
  go_wp2_with fail
  go_ret
  exact ⟨rfl, HB.out.1⟩

set_option maxHeartbeats 3200000 in
set_option maxRecDepth 8000 in
theorem rmay_one (r : RecV) (ta da : Option Addr) (tc dc : Nat) (w : World) (h : r.Ok w ta da) (hx : txB r.tx = true) (k1 : r.kind = 1) :
    Calls Try.prog 10 #[.agg (r.cells ta da tc dc)] w fun e w' => e = .returned (.bool (rmayB r)) ∧ Below w.heap.size w w' := by
  obtain ⟨R, HR⟩ : ∃ R, Hid (rmayB r = R) := ⟨_, rfl⟩
  rw [HR.out]
  obtain ⟨W, HW⟩ : ∃ W, Hid (W = w.alloc (.cells (r.cells ta da tc dc) 43)) := ⟨_, rfl⟩
  have HB : Hid (Below w.heap.size w W ∧ w.heap.size < W.heap.size ∧ BlkR W w.heap.size (r.cells ta da tc dc) 43) := by rw [HW.out]; exact ⟨(Below.refl _ _).alloc (Nat.le_refl _) _, by simp, heap_alloc_new w _⟩
  have HPAR : Hid (r.cells ta da tc dc = #[.int .i64 r.kind, .int .i64 r.tx, .int .u64 r.prev, .int .u64 r.next, .int .u32 r.page, .int .i64 r.op.kind, .int .i64 r.op.at', .string r.op.S, .string r.op.old, .int .i64 r.undo, .int .i64 r.index, .string r.key, .int .u32 r.rpage, .int .i64 r.rslot, .bool r.live, .slice ta r.txs.length tc, .slice da r.dirty.length dc]) := rfl
  have htl := h.tlen
  have hdl := h.dlen
  have hnx := h.next
  have HTX := hidr h.txs
  have HU : Hid (∀ n wx, Calls Try.prog 31 #[.int .i64 n] wx fun e w' => e = .returned (.bool (txB n)) ∧ w' = wx) := fun n wx => rtx_any n wx
  have HCH : Hid (∀ wx, Calls Try.prog 32 #[.agg (r.cells ta da tc dc)] wx fun e w' => e = .returned (.bool (rchangeB r)) ∧ Below wx.heap.size wx w') := fun wx => rchange_any r (.slice ta r.txs.length tc) (.slice da r.dirty.length dc) wx h.op h.key h.page h.rpage
  have HBA : Hid (∀ wx, Calls Try.prog 33 #[.agg (r.cells ta da tc dc)] wx fun e w' => e = .returned (.bool (bareB r)) ∧ Below wx.heap.size wx w') := fun wx => rbare_any r (.slice ta r.txs.length tc) (.slice da r.dirty.length dc) wx
  clear h
  unfold rmayB at HR
  have HX : Hid (txB r.tx = true) := hx
  clear hx
  have Hk1 := hidr k1
  clear k1
  obtain ⟨C, HC⟩ : ∃ C, Hid (rchangeB r = C) := ⟨_, rfl⟩
  obtain ⟨Y, HY⟩ : ∃ Y, Hid (bareB r = Y) := ⟨_, rfl⟩
  rw [HX.out, HC.out, HY.out] at HR
  rw [HC.out] at HCH
  rw [HY.out] at HBA
  have HU0 : Hid (∀ wx, Calls Try.prog 31 #[.int .i64 r.tx] wx fun e w' => e = .returned (.bool true) ∧ w' = wx) := fun wx => by
    have := HU.out r.tx wx
    rw [HX.out] at this
    exact this
  clear HX HC HY
  rw [HPAR.out]
  go_enter Try.func10, Try.ntmps10
  go_upto_region 1 with fail
  rw [← HPAR.out, show w.alloc (.cells (r.cells ta da tc dc) 43) = W from HW.out.symm]
  have z0 : W.cell? ⟨w.heap.size, 0, none⟩ = some (.int .i64 r.kind) := HB.out.2.2.cell 0
  have z1 : W.cell? ⟨w.heap.size, 1, none⟩ = some (.int .i64 r.tx) := HB.out.2.2.cell 1
  have z3 : W.cell? ⟨w.heap.size, 3, none⟩ = some (.int .u64 r.next) := HB.out.2.2.cell 3
  have z15 : W.cell? ⟨w.heap.size, 15, none⟩ = some (.slice ta r.txs.length tc) := HB.out.2.2.cell 15
  have z16 : W.cell? ⟨w.heap.size, 16, none⟩ = some (.slice da r.dirty.length dc) := HB.out.2.2.cell 16
  clear HW HPAR
  go_wp2_with fail
  refine (HU0.out _).mono ?_
  rintro e w1 ⟨rfl, hw1⟩
  subst hw1
  have k1 := Hk1.out
  clear Hk1
  rw [Bool.true_and] at HR
  have HK := hidr k1
  have HV : Hid (R = (!decide (strayP r) && C)) := by show _ = _; rw [← HR.out, if_pos k1]
  clear HR HBA
  rw [k1] at z0
  clear k1
  go_wp2_with (refine wpList_loadRowW (by rfl) (.tmp 1) 43 rfl w.heap.size rfl (r.cells ta da tc dc) 43 (0, 0) HB.out.2.2 _ Try.underlying43 rfl (by kernel_rfl) ?_)
  all_goals first
    | (go_ret; exact ⟨ret_bool (HV.out.trans (sw_no _ (by have := HK.out; (try simp only [bne_iff_ne, bne_eq_false_iff_eq, ne_eq] at *); omega))).symm, HB.out.1⟩)
    | (refine (HCH.out _).mono ?_
       rintro e w2 ⟨rfl, b2⟩
       go_wp2
       go_ret
       exact ⟨ret_bool (HV.out.trans (sw_yes _ (by have := HK.out; (try simp only [bne_iff_ne, bne_eq_false_iff_eq, ne_eq] at *); omega))).symm, below_chain HB.out.1 b2⟩)

set_option maxHeartbeats 3200000 in
set_option maxRecDepth 8000 in
theorem rmay_two (r : RecV) (ta da : Option Addr) (tc dc : Nat) (w : World) (h : r.Ok w ta da) (hx : txB r.tx = true) (k1 : ¬ r.kind = 1) (k2 : r.kind = 2) :
    Calls Try.prog 10 #[.agg (r.cells ta da tc dc)] w fun e w' => e = .returned (.bool (rmayB r)) ∧ Below w.heap.size w w' := by
  obtain ⟨R, HR⟩ : ∃ R, Hid (rmayB r = R) := ⟨_, rfl⟩
  rw [HR.out]
  obtain ⟨W, HW⟩ : ∃ W, Hid (W = w.alloc (.cells (r.cells ta da tc dc) 43)) := ⟨_, rfl⟩
  have HB : Hid (Below w.heap.size w W ∧ w.heap.size < W.heap.size ∧ BlkR W w.heap.size (r.cells ta da tc dc) 43) := by rw [HW.out]; exact ⟨(Below.refl _ _).alloc (Nat.le_refl _) _, by simp, heap_alloc_new w _⟩
  have HPAR : Hid (r.cells ta da tc dc = #[.int .i64 r.kind, .int .i64 r.tx, .int .u64 r.prev, .int .u64 r.next, .int .u32 r.page, .int .i64 r.op.kind, .int .i64 r.op.at', .string r.op.S, .string r.op.old, .int .i64 r.undo, .int .i64 r.index, .string r.key, .int .u32 r.rpage, .int .i64 r.rslot, .bool r.live, .slice ta r.txs.length tc, .slice da r.dirty.length dc]) := rfl
  have htl := h.tlen
  have hdl := h.dlen
  have hnx := h.next
  have HTX := hidr h.txs
  have HU : Hid (∀ n wx, Calls Try.prog 31 #[.int .i64 n] wx fun e w' => e = .returned (.bool (txB n)) ∧ w' = wx) := fun n wx => rtx_any n wx
  have HCH : Hid (∀ wx, Calls Try.prog 32 #[.agg (r.cells ta da tc dc)] wx fun e w' => e = .returned (.bool (rchangeB r)) ∧ Below wx.heap.size wx w') := fun wx => rchange_any r (.slice ta r.txs.length tc) (.slice da r.dirty.length dc) wx h.op h.key h.page h.rpage
  have HBA : Hid (∀ wx, Calls Try.prog 33 #[.agg (r.cells ta da tc dc)] wx fun e w' => e = .returned (.bool (bareB r)) ∧ Below wx.heap.size wx w') := fun wx => rbare_any r (.slice ta r.txs.length tc) (.slice da r.dirty.length dc) wx
  clear h
  unfold rmayB at HR
  have HX : Hid (txB r.tx = true) := hx
  clear hx
  have Hk1 := hidr k1
  clear k1
  have Hk2 := hidr k2
  clear k2
  obtain ⟨C, HC⟩ : ∃ C, Hid (rchangeB r = C) := ⟨_, rfl⟩
  obtain ⟨Y, HY⟩ : ∃ Y, Hid (bareB r = Y) := ⟨_, rfl⟩
  rw [HX.out, HC.out, HY.out] at HR
  rw [HC.out] at HCH
  rw [HY.out] at HBA
  have HU0 : Hid (∀ wx, Calls Try.prog 31 #[.int .i64 r.tx] wx fun e w' => e = .returned (.bool true) ∧ w' = wx) := fun wx => by
    have := HU.out r.tx wx
    rw [HX.out] at this
    exact this
  clear HX HC HY
  rw [HPAR.out]
  go_enter Try.func10, Try.ntmps10
  go_upto_region 1 with fail
  rw [← HPAR.out, show w.alloc (.cells (r.cells ta da tc dc) 43) = W from HW.out.symm]
  have z0 : W.cell? ⟨w.heap.size, 0, none⟩ = some (.int .i64 r.kind) := HB.out.2.2.cell 0
  have z1 : W.cell? ⟨w.heap.size, 1, none⟩ = some (.int .i64 r.tx) := HB.out.2.2.cell 1
  have z3 : W.cell? ⟨w.heap.size, 3, none⟩ = some (.int .u64 r.next) := HB.out.2.2.cell 3
  have z15 : W.cell? ⟨w.heap.size, 15, none⟩ = some (.slice ta r.txs.length tc) := HB.out.2.2.cell 15
  have z16 : W.cell? ⟨w.heap.size, 16, none⟩ = some (.slice da r.dirty.length dc) := HB.out.2.2.cell 16
  clear HW HPAR
  go_wp2_with fail
  refine (HU0.out _).mono ?_
  rintro e w1 ⟨rfl, hw1⟩
  subst hw1
  have k1 := Hk1.out
  clear Hk1
  have k2 := Hk2.out
  clear Hk2
  rw [Bool.true_and] at HR
  have HK := hidr k2
  have HV : Hid (R = (!decide (strayP r) && (C && decide (r.undo = 0)))) := by show _ = _; rw [← HR.out, if_neg k1, if_pos k2]
  clear HR HBA k1
  rw [k2] at z0
  clear k2
  go_wp2_with (refine wpList_loadRowW (by rfl) (.tmp 1) 43 rfl w.heap.size rfl (r.cells ta da tc dc) 43 (0, 0) HB.out.2.2 _ Try.underlying43 rfl (by kernel_rfl) ?_)
  all_goals first
    | (go_ret; exact ⟨ret_bool (HV.out.trans (sw_no _ (by have := HK.out; (try simp only [bne_iff_ne, bne_eq_false_iff_eq, ne_eq] at *); omega))).symm, HB.out.1⟩)
    | (refine (HCH.out _).mono ?_
       rintro e w2 ⟨rfl, b2⟩
       have HV2 : Hid (R = (C && decide (r.undo = 0))) := HV.out.trans (sw_yes _ (by have := HK.out; (try simp only [bne_iff_ne, bne_eq_false_iff_eq, ne_eq] at *); omega))
       have q9 : w2.cell? ⟨w.heap.size, 9, none⟩ = some (.int .i64 r.undo) := (HB.out.2.2.same (b2.block _ HB.out.2.1)).cell 9
       have HBL := hidr (below_chain HB.out.1 b2)
       clear HV HB z0 z1 z3 z15 z16 b2
       cases C with
       | false =>
         go_wp2
         go_ret
         exact ⟨ret_bool HV2.out.symm, HBL.out⟩
       | true =>
         go_wp2
         all_goals
           go_ret
           refine ⟨ret_bool ?_, HBL.out⟩
           rw [HV2.out, Bool.eq_iff_iff]
           simp)

set_option maxHeartbeats 3200000 in
set_option maxRecDepth 8000 in
theorem rmay_k3 (r : RecV) (ta da : Option Addr) (tc dc : Nat) (w : World) (h : r.Ok w ta da) (hx : txB r.tx = true) (k1 : ¬ r.kind = 1) (k2 : ¬ r.kind = 2) (k7 : 3 ≤ r.kind ∧ r.kind ≤ 7) (k : r.kind = 3) :
    Calls Try.prog 10 #[.agg (r.cells ta da tc dc)] w fun e w' => e = .returned (.bool (rmayB r)) ∧ Below w.heap.size w w' := by
  obtain ⟨R, HR⟩ : ∃ R, Hid (rmayB r = R) := ⟨_, rfl⟩
  rw [HR.out]
  obtain ⟨W, HW⟩ : ∃ W, Hid (W = w.alloc (.cells (r.cells ta da tc dc) 43)) := ⟨_, rfl⟩
  have HB : Hid (Below w.heap.size w W ∧ w.heap.size < W.heap.size ∧ BlkR W w.heap.size (r.cells ta da tc dc) 43) := by rw [HW.out]; exact ⟨(Below.refl _ _).alloc (Nat.le_refl _) _, by simp, heap_alloc_new w _⟩
  have HPAR : Hid (r.cells ta da tc dc = #[.int .i64 r.kind, .int .i64 r.tx, .int .u64 r.prev, .int .u64 r.next, .int .u32 r.page, .int .i64 r.op.kind, .int .i64 r.op.at', .string r.op.S, .string r.op.old, .int .i64 r.undo, .int .i64 r.index, .string r.key, .int .u32 r.rpage, .int .i64 r.rslot, .bool r.live, .slice ta r.txs.length tc, .slice da r.dirty.length dc]) := rfl
  have htl := h.tlen
  have hdl := h.dlen
  have hnx := h.next
  have HTX := hidr h.txs
  have HU : Hid (∀ n wx, Calls Try.prog 31 #[.int .i64 n] wx fun e w' => e = .returned (.bool (txB n)) ∧ w' = wx) := fun n wx => rtx_any n wx
  have HCH : Hid (∀ wx, Calls Try.prog 32 #[.agg (r.cells ta da tc dc)] wx fun e w' => e = .returned (.bool (rchangeB r)) ∧ Below wx.heap.size wx w') := fun wx => rchange_any r (.slice ta r.txs.length tc) (.slice da r.dirty.length dc) wx h.op h.key h.page h.rpage
  have HBA : Hid (∀ wx, Calls Try.prog 33 #[.agg (r.cells ta da tc dc)] wx fun e w' => e = .returned (.bool (bareB r)) ∧ Below wx.heap.size wx w') := fun wx => rbare_any r (.slice ta r.txs.length tc) (.slice da r.dirty.length dc) wx
  clear h
  unfold rmayB at HR
  have HX : Hid (txB r.tx = true) := hx
  clear hx
  have Hk1 := hidr k1
  clear k1
  have Hk2 := hidr k2
  clear k2
  have Hk7 := hidr k7
  clear k7
  have Hk := hidr k
  clear k
  obtain ⟨C, HC⟩ : ∃ C, Hid (rchangeB r = C) := ⟨_, rfl⟩
  obtain ⟨Y, HY⟩ : ∃ Y, Hid (bareB r = Y) := ⟨_, rfl⟩
  rw [HX.out, HC.out, HY.out] at HR
  rw [HC.out] at HCH
  rw [HY.out] at HBA
  have HU0 : Hid (∀ wx, Calls Try.prog 31 #[.int .i64 r.tx] wx fun e w' => e = .returned (.bool true) ∧ w' = wx) := fun wx => by
    have := HU.out r.tx wx
    rw [HX.out] at this
    exact this
  clear HX HC HY
  rw [HPAR.out]
  go_enter Try.func10, Try.ntmps10
  go_upto_region 1 with fail
  rw [← HPAR.out, show w.alloc (.cells (r.cells ta da tc dc) 43) = W from HW.out.symm]
  have z0 : W.cell? ⟨w.heap.size, 0, none⟩ = some (.int .i64 r.kind) := HB.out.2.2.cell 0
  have z1 : W.cell? ⟨w.heap.size, 1, none⟩ = some (.int .i64 r.tx) := HB.out.2.2.cell 1
  have z3 : W.cell? ⟨w.heap.size, 3, none⟩ = some (.int .u64 r.next) := HB.out.2.2.cell 3
  have z15 : W.cell? ⟨w.heap.size, 15, none⟩ = some (.slice ta r.txs.length tc) := HB.out.2.2.cell 15
  have z16 : W.cell? ⟨w.heap.size, 16, none⟩ = some (.slice da r.dirty.length dc) := HB.out.2.2.cell 16
  clear HW HPAR
  go_wp2_with fail
  refine (HU0.out _).mono ?_
  rintro e w1 ⟨rfl, hw1⟩
  subst hw1
  have k1 := Hk1.out
  clear Hk1
  have k2 := Hk2.out
  clear Hk2
  have k7 := Hk7.out
  clear Hk7
  have k := Hk.out
  clear Hk
  rw [Bool.true_and] at HR
  have HV : Hid (R = (!decide (strayP r) && Y)) := by show _ = _; rw [← HR.out, if_neg k1, if_neg k2, if_pos k7]
  clear HR HCH k1 k2 k7
  have HK2 := hidr k
  rw [k] at z0
  clear k
  go_wp2_with (refine wpList_loadRowW (by rfl) (.tmp 1) 43 rfl w.heap.size rfl (r.cells ta da tc dc) 43 (0, 0) HB.out.2.2 _ Try.underlying43 rfl (by kernel_rfl) ?_)
  all_goals first
    | (go_ret; exact ⟨ret_bool (HV.out.trans (sw_no _ (by have := HK2.out; (try simp only [bne_iff_ne, bne_eq_false_iff_eq, ne_eq] at *); omega))).symm, HB.out.1⟩)
    | (refine (HBA.out _).mono ?_
       rintro e w2 ⟨rfl, b2⟩
       go_wp2
       go_ret
       exact ⟨ret_bool (HV.out.trans (sw_yes _ (by have := HK2.out; (try simp only [bne_iff_ne, bne_eq_false_iff_eq, ne_eq] at *); omega))).symm, below_chain HB.out.1 b2⟩)

set_option maxHeartbeats 3200000 in
set_option maxRecDepth 8000 in
theorem rmay_k4 (r : RecV) (ta da : Option Addr) (tc dc : Nat) (w : World) (h : r.Ok w ta da) (hx : txB r.tx = true) (k1 : ¬ r.kind = 1) (k2 : ¬ r.kind = 2) (k7 : 3 ≤ r.kind ∧ r.kind ≤ 7) (k : r.kind = 4) :
    Calls Try.prog 10 #[.agg (r.cells ta da tc dc)] w fun e w' => e = .returned (.bool (rmayB r)) ∧ Below w.heap.size w w' := by
  obtain ⟨R, HR⟩ : ∃ R, Hid (rmayB r = R) := ⟨_, rfl⟩
  rw [HR.out]
  obtain ⟨W, HW⟩ : ∃ W, Hid (W = w.alloc (.cells (r.cells ta da tc dc) 43)) := ⟨_, rfl⟩
  have HB : Hid (Below w.heap.size w W ∧ w.heap.size < W.heap.size ∧ BlkR W w.heap.size (r.cells ta da tc dc) 43) := by rw [HW.out]; exact ⟨(Below.refl _ _).alloc (Nat.le_refl _) _, by simp, heap_alloc_new w _⟩
  have HPAR : Hid (r.cells ta da tc dc = #[.int .i64 r.kind, .int .i64 r.tx, .int .u64 r.prev, .int .u64 r.next, .int .u32 r.page, .int .i64 r.op.kind, .int .i64 r.op.at', .string r.op.S, .string r.op.old, .int .i64 r.undo, .int .i64 r.index, .string r.key, .int .u32 r.rpage, .int .i64 r.rslot, .bool r.live, .slice ta r.txs.length tc, .slice da r.dirty.length dc]) := rfl
  have htl := h.tlen
  have hdl := h.dlen
  have hnx := h.next
  have HTX := hidr h.txs
  have HU : Hid (∀ n wx, Calls Try.prog 31 #[.int .i64 n] wx fun e w' => e = .returned (.bool (txB n)) ∧ w' = wx) := fun n wx => rtx_any n wx
  have HCH : Hid (∀ wx, Calls Try.prog 32 #[.agg (r.cells ta da tc dc)] wx fun e w' => e = .returned (.bool (rchangeB r)) ∧ Below wx.heap.size wx w') := fun wx => rchange_any r (.slice ta r.txs.length tc) (.slice da r.dirty.length dc) wx h.op h.key h.page h.rpage
  have HBA : Hid (∀ wx, Calls Try.prog 33 #[.agg (r.cells ta da tc dc)] wx fun e w' => e = .returned (.bool (bareB r)) ∧ Below wx.heap.size wx w') := fun wx => rbare_any r (.slice ta r.txs.length tc) (.slice da r.dirty.length dc) wx
  clear h
  unfold rmayB at HR
  have HX : Hid (txB r.tx = true) := hx
  clear hx
  have Hk1 := hidr k1
  clear k1
  have Hk2 := hidr k2
  clear k2
  have Hk7 := hidr k7
  clear k7
  have Hk := hidr k
  clear k
  obtain ⟨C, HC⟩ : ∃ C, Hid (rchangeB r = C) := ⟨_, rfl⟩
  obtain ⟨Y, HY⟩ : ∃ Y, Hid (bareB r = Y) := ⟨_, rfl⟩
  rw [HX.out, HC.out, HY.out] at HR
  rw [HC.out] at HCH
  rw [HY.out] at HBA
  have HU0 : Hid (∀ wx, Calls Try.prog 31 #[.int .i64 r.tx] wx fun e w' => e = .returned (.bool true) ∧ w' = wx) := fun wx => by
    have := HU.out r.tx wx
    rw [HX.out] at this
    exact this
  clear HX HC HY
  rw [HPAR.out]
  go_enter Try.func10, Try.ntmps10
  go_upto_region 1 with fail
  rw [← HPAR.out, show w.alloc (.cells (r.cells ta da tc dc) 43) = W from HW.out.symm]
  have z0 : W.cell? ⟨w.heap.size, 0, none⟩ = some (.int .i64 r.kind) := HB.out.2.2.cell 0
  have z1 : W.cell? ⟨w.heap.size, 1, none⟩ = some (.int .i64 r.tx) := HB.out.2.2.cell 1
  have z3 : W.cell? ⟨w.heap.size, 3, none⟩ = some (.int .u64 r.next) := HB.out.2.2.cell 3
  have z15 : W.cell? ⟨w.heap.size, 15, none⟩ = some (.slice ta r.txs.length tc) := HB.out.2.2.cell 15
  have z16 : W.cell? ⟨w.heap.size, 16, none⟩ = some (.slice da r.dirty.length dc) := HB.out.2.2.cell 16
  clear HW HPAR
  go_wp2_with fail
  refine (HU0.out _).mono ?_
  rintro e w1 ⟨rfl, hw1⟩
  subst hw1
  have k1 := Hk1.out
  clear Hk1
  have k2 := Hk2.out
  clear Hk2
  have k7 := Hk7.out
  clear Hk7
  have k := Hk.out
  clear Hk
  rw [Bool.true_and] at HR
  have HV : Hid (R = (!decide (strayP r) && Y)) := by show _ = _; rw [← HR.out, if_neg k1, if_neg k2, if_pos k7]
  clear HR HCH k1 k2 k7
  have HK2 := hidr k
  rw [k] at z0
  clear k
  go_wp2_with (refine wpList_loadRowW (by rfl) (.tmp 1) 43 rfl w.heap.size rfl (r.cells ta da tc dc) 43 (0, 0) HB.out.2.2 _ Try.underlying43 rfl (by kernel_rfl) ?_)
  all_goals first
    | (go_ret; exact ⟨ret_bool (HV.out.trans (sw_no _ (by have := HK2.out; (try simp only [bne_iff_ne, bne_eq_false_iff_eq, ne_eq] at *); omega))).symm, HB.out.1⟩)
    | (refine (HBA.out _).mono ?_
       rintro e w2 ⟨rfl, b2⟩
       go_wp2
       go_ret
       exact ⟨ret_bool (HV.out.trans (sw_yes _ (by have := HK2.out; (try simp only [bne_iff_ne, bne_eq_false_iff_eq, ne_eq] at *); omega))).symm, below_chain HB.out.1 b2⟩)

set_option maxHeartbeats 3200000 in
set_option maxRecDepth 8000 in
theorem rmay_k5 (r : RecV) (ta da : Option Addr) (tc dc : Nat) (w : World) (h : r.Ok w ta da) (hx : txB r.tx = true) (k1 : ¬ r.kind = 1) (k2 : ¬ r.kind = 2) (k7 : 3 ≤ r.kind ∧ r.kind ≤ 7) (k : r.kind = 5) :
    Calls Try.prog 10 #[.agg (r.cells ta da tc dc)] w fun e w' => e = .returned (.bool (rmayB r)) ∧ Below w.heap.size w w' := by
  obtain ⟨R, HR⟩ : ∃ R, Hid (rmayB r = R) := ⟨_, rfl⟩
  rw [HR.out]
  obtain ⟨W, HW⟩ : ∃ W, Hid (W = w.alloc (.cells (r.cells ta da tc dc) 43)) := ⟨_, rfl⟩
  have HB : Hid (Below w.heap.size w W ∧ w.heap.size < W.heap.size ∧ BlkR W w.heap.size (r.cells ta da tc dc) 43) := by rw [HW.out]; exact ⟨(Below.refl _ _).alloc (Nat.le_refl _) _, by simp, heap_alloc_new w _⟩
  have HPAR : Hid (r.cells ta da tc dc = #[.int .i64 r.kind, .int .i64 r.tx, .int .u64 r.prev, .int .u64 r.next, .int .u32 r.page, .int .i64 r.op.kind, .int .i64 r.op.at', .string r.op.S, .string r.op.old, .int .i64 r.undo, .int .i64 r.index, .string r.key, .int .u32 r.rpage, .int .i64 r.rslot, .bool r.live, .slice ta r.txs.length tc, .slice da r.dirty.length dc]) := rfl
  have htl := h.tlen
  have hdl := h.dlen
  have hnx := h.next
  have HTX := hidr h.txs
  have HU : Hid (∀ n wx, Calls Try.prog 31 #[.int .i64 n] wx fun e w' => e = .returned (.bool (txB n)) ∧ w' = wx) := fun n wx => rtx_any n wx
  have HCH : Hid (∀ wx, Calls Try.prog 32 #[.agg (r.cells ta da tc dc)] wx fun e w' => e = .returned (.bool (rchangeB r)) ∧ Below wx.heap.size wx w') := fun wx => rchange_any r (.slice ta r.txs.length tc) (.slice da r.dirty.length dc) wx h.op h.key h.page h.rpage
  have HBA : Hid (∀ wx, Calls Try.prog 33 #[.agg (r.cells ta da tc dc)] wx fun e w' => e = .returned (.bool (bareB r)) ∧ Below wx.heap.size wx w') := fun wx => rbare_any r (.slice ta r.txs.length tc) (.slice da r.dirty.length dc) wx
  clear h
  unfold rmayB at HR
  have HX : Hid (txB r.tx = true) := hx
  clear hx
  have Hk1 := hidr k1
  clear k1
  have Hk2 := hidr k2
  clear k2
  have Hk7 := hidr k7
  clear k7
  have Hk := hidr k
  clear k
  obtain ⟨C, HC⟩ : ∃ C, Hid (rchangeB r = C) := ⟨_, rfl⟩
  obtain ⟨Y, HY⟩ : ∃ Y, Hid (bareB r = Y) := ⟨_, rfl⟩
  rw [HX.out, HC.out, HY.out] at HR
  rw [HC.out] at HCH
  rw [HY.out] at HBA
  have HU0 : Hid (∀ wx, Calls Try.prog 31 #[.int .i64 r.tx] wx fun e w' => e = .returned (.bool true) ∧ w' = wx) := fun wx => by
    have := HU.out r.tx wx
    rw [HX.out] at this
    exact this
  clear HX HC HY
  rw [HPAR.out]
  go_enter Try.func10, Try.ntmps10
  go_upto_region 1 with fail
  rw [← HPAR.out, show w.alloc (.cells (r.cells ta da tc dc) 43) = W from HW.out.symm]
  have z0 : W.cell? ⟨w.heap.size, 0, none⟩ = some (.int .i64 r.kind) := HB.out.2.2.cell 0
  have z1 : W.cell? ⟨w.heap.size, 1, none⟩ = some (.int .i64 r.tx) := HB.out.2.2.cell 1
  have z3 : W.cell? ⟨w.heap.size, 3, none⟩ = some (.int .u64 r.next) := HB.out.2.2.cell 3
  have z15 : W.cell? ⟨w.heap.size, 15, none⟩ = some (.slice ta r.txs.length tc) := HB.out.2.2.cell 15
  have z16 : W.cell? ⟨w.heap.size, 16, none⟩ = some (.slice da r.dirty.length dc) := HB.out.2.2.cell 16
  clear HW HPAR
  go_wp2_with fail
  refine (HU0.out _).mono ?_
  rintro e w1 ⟨rfl, hw1⟩
  subst hw1
  have k1 := Hk1.out
  clear Hk1
  have k2 := Hk2.out
  clear Hk2
  have k7 := Hk7.out
  clear Hk7
  have k := Hk.out
  clear Hk
  rw [Bool.true_and] at HR
  have HV : Hid (R = (!decide (strayP r) && Y)) := by show _ = _; rw [← HR.out, if_neg k1, if_neg k2, if_pos k7]
  clear HR HCH k1 k2 k7
  have HK2 := hidr k
  rw [k] at z0
  clear k
  go_wp2_with (refine wpList_loadRowW (by rfl) (.tmp 1) 43 rfl w.heap.size rfl (r.cells ta da tc dc) 43 (0, 0) HB.out.2.2 _ Try.underlying43 rfl (by kernel_rfl) ?_)
  all_goals first
    | (go_ret; exact ⟨ret_bool (HV.out.trans (sw_no _ (by have := HK2.out; (try simp only [bne_iff_ne, bne_eq_false_iff_eq, ne_eq] at *); omega))).symm, HB.out.1⟩)
    | (refine (HBA.out _).mono ?_
       rintro e w2 ⟨rfl, b2⟩
       go_wp2
       go_ret
       exact ⟨ret_bool (HV.out.trans (sw_yes _ (by have := HK2.out; (try simp only [bne_iff_ne, bne_eq_false_iff_eq, ne_eq] at *); omega))).symm, below_chain HB.out.1 b2⟩)

set_option maxHeartbeats 3200000 in
set_option maxRecDepth 8000 in
theorem rmay_k6 (r : RecV) (ta da : Option Addr) (tc dc : Nat) (w : World) (h : r.Ok w ta da) (hx : txB r.tx = true) (k1 : ¬ r.kind = 1) (k2 : ¬ r.kind = 2) (k7 : 3 ≤ r.kind ∧ r.kind ≤ 7) (k : r.kind = 6) :
    Calls Try.prog 10 #[.agg (r.cells ta da tc dc)] w fun e w' => e = .returned (.bool (rmayB r)) ∧ Below w.heap.size w w' := by
  obtain ⟨R, HR⟩ : ∃ R, Hid (rmayB r = R) := ⟨_, rfl⟩
  rw [HR.out]
  obtain ⟨W, HW⟩ : ∃ W, Hid (W = w.alloc (.cells (r.cells ta da tc dc) 43)) := ⟨_, rfl⟩
  have HB : Hid (Below w.heap.size w W ∧ w.heap.size < W.heap.size ∧ BlkR W w.heap.size (r.cells ta da tc dc) 43) := by rw [HW.out]; exact ⟨(Below.refl _ _).alloc (Nat.le_refl _) _, by simp, heap_alloc_new w _⟩
  have HPAR : Hid (r.cells ta da tc dc = #[.int .i64 r.kind, .int .i64 r.tx, .int .u64 r.prev, .int .u64 r.next, .int .u32 r.page, .int .i64 r.op.kind, .int .i64 r.op.at', .string r.op.S, .string r.op.old, .int .i64 r.undo, .int .i64 r.index, .string r.key, .int .u32 r.rpage, .int .i64 r.rslot, .bool r.live, .slice ta r.txs.length tc, .slice da r.dirty.length dc]) := rfl
  have htl := h.tlen
  have hdl := h.dlen
  have hnx := h.next
  have HTX := hidr h.txs
  have HU : Hid (∀ n wx, Calls Try.prog 31 #[.int .i64 n] wx fun e w' => e = .returned (.bool (txB n)) ∧ w' = wx) := fun n wx => rtx_any n wx
  have HCH : Hid (∀ wx, Calls Try.prog 32 #[.agg (r.cells ta da tc dc)] wx fun e w' => e = .returned (.bool (rchangeB r)) ∧ Below wx.heap.size wx w') := fun wx => rchange_any r (.slice ta r.txs.length tc) (.slice da r.dirty.length dc) wx h.op h.key h.page h.rpage
  have HBA : Hid (∀ wx, Calls Try.prog 33 #[.agg (r.cells ta da tc dc)] wx fun e w' => e = .returned (.bool (bareB r)) ∧ Below wx.heap.size wx w') := fun wx => rbare_any r (.slice ta r.txs.length tc) (.slice da r.dirty.length dc) wx
  clear h
  unfold rmayB at HR
  have HX : Hid (txB r.tx = true) := hx
  clear hx
  have Hk1 := hidr k1
  clear k1
  have Hk2 := hidr k2
  clear k2
  have Hk7 := hidr k7
  clear k7
  have Hk := hidr k
  clear k
  obtain ⟨C, HC⟩ : ∃ C, Hid (rchangeB r = C) := ⟨_, rfl⟩
  obtain ⟨Y, HY⟩ : ∃ Y, Hid (bareB r = Y) := ⟨_, rfl⟩
  rw [HX.out, HC.out, HY.out] at HR
  rw [HC.out] at HCH
  rw [HY.out] at HBA
  have HU0 : Hid (∀ wx, Calls Try.prog 31 #[.int .i64 r.tx] wx fun e w' => e = .returned (.bool true) ∧ w' = wx) := fun wx => by
    have := HU.out r.tx wx
    rw [HX.out] at this
    exact this
  clear HX HC HY
  rw [HPAR.out]
  go_enter Try.func10, Try.ntmps10
  go_upto_region 1 with fail
  rw [← HPAR.out, show w.alloc (.cells (r.cells ta da tc dc) 43) = W from HW.out.symm]
  have z0 : W.cell? ⟨w.heap.size, 0, none⟩ = some (.int .i64 r.kind) := HB.out.2.2.cell 0
  have z1 : W.cell? ⟨w.heap.size, 1, none⟩ = some (.int .i64 r.tx) := HB.out.2.2.cell 1
  have z3 : W.cell? ⟨w.heap.size, 3, none⟩ = some (.int .u64 r.next) := HB.out.2.2.cell 3
  have z15 : W.cell? ⟨w.heap.size, 15, none⟩ = some (.slice ta r.txs.length tc) := HB.out.2.2.cell 15
  have z16 : W.cell? ⟨w.heap.size, 16, none⟩ = some (.slice da r.dirty.length dc) := HB.out.2.2.cell 16
  clear HW HPAR
  go_wp2_with fail
  refine (HU0.out _).mono ?_
  rintro e w1 ⟨rfl, hw1⟩
  subst hw1
  have k1 := Hk1.out
  clear Hk1
  have k2 := Hk2.out
  clear Hk2
  have k7 := Hk7.out
  clear Hk7
  have k := Hk.out
  clear Hk
  rw [Bool.true_and] at HR
  have HV : Hid (R = (!decide (strayP r) && Y)) := by show _ = _; rw [← HR.out, if_neg k1, if_neg k2, if_pos k7]
  clear HR HCH k1 k2 k7
  have HK2 := hidr k
  rw [k] at z0
  clear k
  go_wp2_with (refine wpList_loadRowW (by rfl) (.tmp 1) 43 rfl w.heap.size rfl (r.cells ta da tc dc) 43 (0, 0) HB.out.2.2 _ Try.underlying43 rfl (by kernel_rfl) ?_)
  all_goals first
    | (go_ret; exact ⟨ret_bool (HV.out.trans (sw_no _ (by have := HK2.out; (try simp only [bne_iff_ne, bne_eq_false_iff_eq, ne_eq] at *); omega))).symm, HB.out.1⟩)
    | (refine (HBA.out _).mono ?_
       rintro e w2 ⟨rfl, b2⟩
       go_wp2
       go_ret
       exact ⟨ret_bool (HV.out.trans (sw_yes _ (by have := HK2.out; (try simp only [bne_iff_ne, bne_eq_false_iff_eq, ne_eq] at *); omega))).symm, below_chain HB.out.1 b2⟩)

set_option maxHeartbeats 3200000 in
set_option maxRecDepth 8000 in
theorem rmay_k7 (r : RecV) (ta da : Option Addr) (tc dc : Nat) (w : World) (h : r.Ok w ta da) (hx : txB r.tx = true) (k1 : ¬ r.kind = 1) (k2 : ¬ r.kind = 2) (k7 : 3 ≤ r.kind ∧ r.kind ≤ 7) (k : r.kind = 7) :
    Calls Try.prog 10 #[.agg (r.cells ta da tc dc)] w fun e w' => e = .returned (.bool (rmayB r)) ∧ Below w.heap.size w w' := by
  obtain ⟨R, HR⟩ : ∃ R, Hid (rmayB r = R) := ⟨_, rfl⟩
  rw [HR.out]
  obtain ⟨W, HW⟩ : ∃ W, Hid (W = w.alloc (.cells (r.cells ta da tc dc) 43)) := ⟨_, rfl⟩
  have HB : Hid (Below w.heap.size w W ∧ w.heap.size < W.heap.size ∧ BlkR W w.heap.size (r.cells ta da tc dc) 43) := by rw [HW.out]; exact ⟨(Below.refl _ _).alloc (Nat.le_refl _) _, by simp, heap_alloc_new w _⟩
  have HPAR : Hid (r.cells ta da tc dc = #[.int .i64 r.kind, .int .i64 r.tx, .int .u64 r.prev, .int .u64 r.next, .int .u32 r.page, .int .i64 r.op.kind, .int .i64 r.op.at', .string r.op.S, .string r.op.old, .int .i64 r.undo, .int .i64 r.index, .string r.key, .int .u32 r.rpage, .int .i64 r.rslot, .bool r.live, .slice ta r.txs.length tc, .slice da r.dirty.length dc]) := rfl
  have htl := h.tlen
  have hdl := h.dlen
  have hnx := h.next
  have HTX := hidr h.txs
  have HU : Hid (∀ n wx, Calls Try.prog 31 #[.int .i64 n] wx fun e w' => e = .returned (.bool (txB n)) ∧ w' = wx) := fun n wx => rtx_any n wx
  have HCH : Hid (∀ wx, Calls Try.prog 32 #[.agg (r.cells ta da tc dc)] wx fun e w' => e = .returned (.bool (rchangeB r)) ∧ Below wx.heap.size wx w') := fun wx => rchange_any r (.slice ta r.txs.length tc) (.slice da r.dirty.length dc) wx h.op h.key h.page h.rpage
  have HBA : Hid (∀ wx, Calls Try.prog 33 #[.agg (r.cells ta da tc dc)] wx fun e w' => e = .returned (.bool (bareB r)) ∧ Below wx.heap.size wx w') := fun wx => rbare_any r (.slice ta r.txs.length tc) (.slice da r.dirty.length dc) wx
  clear h
  unfold rmayB at HR
  have HX : Hid (txB r.tx = true) := hx
  clear hx
  have Hk1 := hidr k1
  clear k1
  have Hk2 := hidr k2
  clear k2
  have Hk7 := hidr k7
  clear k7
  have Hk := hidr k
  clear k
  obtain ⟨C, HC⟩ : ∃ C, Hid (rchangeB r = C) := ⟨_, rfl⟩
  obtain ⟨Y, HY⟩ : ∃ Y, Hid (bareB r = Y) := ⟨_, rfl⟩
  rw [HX.out, HC.out, HY.out] at HR
  rw [HC.out] at HCH
  rw [HY.out] at HBA
  have HU0 : Hid (∀ wx, Calls Try.prog 31 #[.int .i64 r.tx] wx fun e w' => e = .returned (.bool true) ∧ w' = wx) := fun wx => by
    have := HU.out r.tx wx
    rw [HX.out] at this
    exact this
  clear HX HC HY
  rw [HPAR.out]
  go_enter Try.func10, Try.ntmps10
  go_upto_region 1 with fail
  rw [← HPAR.out, show w.alloc (.cells (r.cells ta da tc dc) 43) = W from HW.out.symm]
  have z0 : W.cell? ⟨w.heap.size, 0, none⟩ = some (.int .i64 r.kind) := HB.out.2.2.cell 0
  have z1 : W.cell? ⟨w.heap.size, 1, none⟩ = some (.int .i64 r.tx) := HB.out.2.2.cell 1
  have z3 : W.cell? ⟨w.heap.size, 3, none⟩ = some (.int .u64 r.next) := HB.out.2.2.cell 3
  have z15 : W.cell? ⟨w.heap.size, 15, none⟩ = some (.slice ta r.txs.length tc) := HB.out.2.2.cell 15
  have z16 : W.cell? ⟨w.heap.size, 16, none⟩ = some (.slice da r.dirty.length dc) := HB.out.2.2.cell 16
  clear HW HPAR
  go_wp2_with fail
  refine (HU0.out _).mono ?_
  rintro e w1 ⟨rfl, hw1⟩
  subst hw1
  have k1 := Hk1.out
  clear Hk1
  have k2 := Hk2.out
  clear Hk2
  have k7 := Hk7.out
  clear Hk7
  have k := Hk.out
  clear Hk
  rw [Bool.true_and] at HR
  have HV : Hid (R = (!decide (strayP r) && Y)) := by show _ = _; rw [← HR.out, if_neg k1, if_neg k2, if_pos k7]
  clear HR HCH k1 k2 k7
  have HK2 := hidr k
  rw [k] at z0
  clear k
  go_wp2_with (refine wpList_loadRowW (by rfl) (.tmp 1) 43 rfl w.heap.size rfl (r.cells ta da tc dc) 43 (0, 0) HB.out.2.2 _ Try.underlying43 rfl (by kernel_rfl) ?_)
  all_goals first
    | (go_ret; exact ⟨ret_bool (HV.out.trans (sw_no _ (by have := HK2.out; (try simp only [bne_iff_ne, bne_eq_false_iff_eq, ne_eq] at *); omega))).symm, HB.out.1⟩)
    | (refine (HBA.out _).mono ?_
       rintro e w2 ⟨rfl, b2⟩
       go_wp2
       go_ret
       exact ⟨ret_bool (HV.out.trans (sw_yes _ (by have := HK2.out; (try simp only [bne_iff_ne, bne_eq_false_iff_eq, ne_eq] at *); omega))).symm, below_chain HB.out.1 b2⟩)

set_option maxHeartbeats 3200000 in
set_option maxRecDepth 8000 in
theorem rmay_eight (r : RecV) (ta da : Option Addr) (tc dc : Nat) (w : World) (h : r.Ok w ta da) (hx : txB r.tx = true) (k1 : ¬ r.kind = 1) (k2 : ¬ r.kind = 2) (k7 : ¬ (3 ≤ r.kind ∧ r.kind ≤ 7)) (k8 : r.kind = 8) :
    Calls Try.prog 10 #[.agg (r.cells ta da tc dc)] w fun e w' => e = .returned (.bool (rmayB r)) ∧ Below w.heap.size w w' := by
  obtain ⟨R, HR⟩ : ∃ R, Hid (rmayB r = R) := ⟨_, rfl⟩
  rw [HR.out]
  obtain ⟨W, HW⟩ : ∃ W, Hid (W = w.alloc (.cells (r.cells ta da tc dc) 43)) := ⟨_, rfl⟩
  have HB : Hid (Below w.heap.size w W ∧ w.heap.size < W.heap.size ∧ BlkR W w.heap.size (r.cells ta da tc dc) 43) := by rw [HW.out]; exact ⟨(Below.refl _ _).alloc (Nat.le_refl _) _, by simp, heap_alloc_new w _⟩
  have HPAR : Hid (r.cells ta da tc dc = #[.int .i64 r.kind, .int .i64 r.tx, .int .u64 r.prev, .int .u64 r.next, .int .u32 r.page, .int .i64 r.op.kind, .int .i64 r.op.at', .string r.op.S, .string r.op.old, .int .i64 r.undo, .int .i64 r.index, .string r.key, .int .u32 r.rpage, .int .i64 r.rslot, .bool r.live, .slice ta r.txs.length tc, .slice da r.dirty.length dc]) := rfl
  have htl := h.tlen
  have hdl := h.dlen
  have hnx := h.next
  have HTX := hidr h.txs
  have HU : Hid (∀ n wx, Calls Try.prog 31 #[.int .i64 n] wx fun e w' => e = .returned (.bool (txB n)) ∧ w' = wx) := fun n wx => rtx_any n wx
  have HCH : Hid (∀ wx, Calls Try.prog 32 #[.agg (r.cells ta da tc dc)] wx fun e w' => e = .returned (.bool (rchangeB r)) ∧ Below wx.heap.size wx w') := fun wx => rchange_any r (.slice ta r.txs.length tc) (.slice da r.dirty.length dc) wx h.op h.key h.page h.rpage
  have HBA : Hid (∀ wx, Calls Try.prog 33 #[.agg (r.cells ta da tc dc)] wx fun e w' => e = .returned (.bool (bareB r)) ∧ Below wx.heap.size wx w') := fun wx => rbare_any r (.slice ta r.txs.length tc) (.slice da r.dirty.length dc) wx
  clear h
  unfold rmayB at HR
  have HX : Hid (txB r.tx = true) := hx
  clear hx
  have Hk1 := hidr k1
  clear k1
  have Hk2 := hidr k2
  clear k2
  have Hk7 := hidr k7
  clear k7
  have Hk8 := hidr k8
  clear k8
  obtain ⟨C, HC⟩ : ∃ C, Hid (rchangeB r = C) := ⟨_, rfl⟩
  obtain ⟨Y, HY⟩ : ∃ Y, Hid (bareB r = Y) := ⟨_, rfl⟩
  rw [HX.out, HC.out, HY.out] at HR
  rw [HC.out] at HCH
  rw [HY.out] at HBA
  have HU0 : Hid (∀ wx, Calls Try.prog 31 #[.int .i64 r.tx] wx fun e w' => e = .returned (.bool true) ∧ w' = wx) := fun wx => by
    have := HU.out r.tx wx
    rw [HX.out] at this
    exact this
  clear HX HC HY
  rw [HPAR.out]
  go_enter Try.func10, Try.ntmps10
  go_upto_region 1 with fail
  rw [← HPAR.out, show w.alloc (.cells (r.cells ta da tc dc) 43) = W from HW.out.symm]
  have z0 : W.cell? ⟨w.heap.size, 0, none⟩ = some (.int .i64 r.kind) := HB.out.2.2.cell 0
  have z1 : W.cell? ⟨w.heap.size, 1, none⟩ = some (.int .i64 r.tx) := HB.out.2.2.cell 1
  have z3 : W.cell? ⟨w.heap.size, 3, none⟩ = some (.int .u64 r.next) := HB.out.2.2.cell 3
  have z15 : W.cell? ⟨w.heap.size, 15, none⟩ = some (.slice ta r.txs.length tc) := HB.out.2.2.cell 15
  have z16 : W.cell? ⟨w.heap.size, 16, none⟩ = some (.slice da r.dirty.length dc) := HB.out.2.2.cell 16
  clear HW HPAR
  go_wp2_with fail
  refine (HU0.out _).mono ?_
  rintro e w1 ⟨rfl, hw1⟩
  subst hw1
  have k1 := Hk1.out
  clear Hk1
  have k2 := Hk2.out
  clear Hk2
  have k7 := Hk7.out
  clear Hk7
  have k8 := Hk8.out
  clear Hk8
  rw [Bool.true_and] at HR
  have HK := hidr k8
  have HV : Hid (R = (!decide (strayP r) && (Y && lmayB r))) := by show _ = _; rw [← HR.out, if_neg k1, if_neg k2, if_neg k7, if_pos k8]
  clear HR HCH k1 k2 k7
  rw [k8] at z0
  clear k8
  by_cases hn : r.next = 0
  rotate_left
  · have hn' : ((r.next : Int) == 0) = false := by rw [beq_eq_false_iff_ne]; omega
    have HN := hidr hn
    clear hn
    go_wp2_with fail
    go_ret
    exact ⟨ret_bool (HV.out.trans (sw_no _ (by have := HK.out; have := HN.out; omega))).symm, HB.out.1⟩
  · have hn' : ((r.next : Int) == 0) = true := by rw [hn]; rfl
    have HV2 : Hid (R = (Y && lmayB r)) := HV.out.trans (sw_yes _ (by have := HK.out; (try simp only [bne_iff_ne, bne_eq_false_iff_eq, ne_eq] at *); omega))
    clear hn HV
    go_wp2_with (refine wpList_loadRowW (by rfl) (.tmp 1) 43 rfl w.heap.size rfl (r.cells ta da tc dc) 43 (0, 0) HB.out.2.2 _ Try.underlying43 rfl (by kernel_rfl) ?_)
    refine (HBA.out _).mono ?_
    rintro e w2 ⟨rfl, b2⟩
    have q15 : w2.cell? ⟨w.heap.size, 15, none⟩ = some (.slice ta r.txs.length tc) := (HB.out.2.2.same (b2.block _ HB.out.2.1)).cell 15
    have q16 : w2.cell? ⟨w.heap.size, 16, none⟩ = some (.slice da r.dirty.length dc) := (HB.out.2.2.same (b2.block _ HB.out.2.1)).cell 16
    have HBL := hidr (below_chain HB.out.1 b2)
    clear HB z0 z1 z3 z15 z16 b2 HBA HU0
    cases Y with
    | false =>
      go_wp2_with fail
      go_ret
      exact ⟨ret_bool HV2.out.symm, HBL.out⟩
    | true =>
      rw [Bool.true_and] at HV2
      by_cases h1 : 64 < r.txs.length
      · have e1 : decide ((64 : Int) < (r.txs.length : Int)) = true := by simp; omega
        have HR' : Hid (R = false) := by show _ = _; rw [HV2.out]; unfold lmayB; rw [decide_eq_false (by omega : ¬ r.txs.length ≤ 64)]; rfl
        go_wp2_with fail
        go_ret
        exact ⟨ret_bool HR'.out.symm, HBL.out⟩
      · have e1 : decide ((64 : Int) < (r.txs.length : Int)) = false := by simp; omega
        by_cases h2 : 256 < r.dirty.length
        · have e2 : decide ((256 : Int) < (r.dirty.length : Int)) = true := by simp; omega
          have HR' : Hid (R = false) := by show _ = _; rw [HV2.out]; unfold lmayB; rw [decide_eq_false (by omega : ¬ r.dirty.length ≤ 256)]; simp
          go_wp2_with fail
          go_ret
          exact ⟨ret_bool HR'.out.symm, HBL.out⟩
        · have e2 : decide ((256 : Int) < (r.dirty.length : Int)) = false := by simp; omega
          have HR2 : Hid (R = r.txs.all txMay) := by show _ = _; rw [HV2.out]; unfold lmayB; rw [decide_eq_true (by omega : r.txs.length ≤ 64), decide_eq_true (by omega : r.dirty.length ≤ 256)]; rfl
          clear HV2
          go_wp2_with fail
          go_loopw [3] (fun x wr => ∃ k : Nat, x = .int .i64 k ∧ k ≤ r.txs.length ∧ wr = w2 ∧ Hid (∀ i (hi : i < r.txs.length), i < k → txMay r.txs[i] = true)) (fun x _ => r.txs.length - (intOf x).toNat)
          case atStart => exact ⟨0, rfl, Nat.zero_le _, rfl, fun i hi h0 => absurd h0 (Nat.not_lt_zero _)⟩
          case round =>
            obtain ⟨k, rfl, hk, hwr, HA⟩ := hrel
            obtain rfl := hwr.symm
            by_cases hlt : k < r.txs.length
            · have d1 : decide ((k : Int) < (r.txs.length : Int)) = true := by simp; omega
              have i1 : (0 : Int) ≤ (k : Int) := by omega
              have i2 : (k : Int) < (r.txs.length : Int) := by omega
              obtain ⟨b1, o1, rfl, hb1, g1⟩ : ∃ b1 o1, ta = some ⟨b1, o1, none⟩ ∧ b1 < w2.heap.size ∧ TxAt w2 b1 (o1 + k * 4) r.txs[k] := by
                rcases HTX.out.below HBL.out with h | ⟨b1, o1, e, hb, h⟩
                · rw [h] at hlt; simp at hlt
                · exact ⟨b1, o1, e, hb, h k hlt⟩
              have HT1 : Hid (txMay r.txs[k] = true → ∀ i (hi : i < r.txs.length), i < k + 1 → txMay r.txs[i] = true) := fun ht i hi h' => by
                by_cases e : i = k
                · subst e; exact ht
                · exact HA.out i hi (by omega)
              have HT2 : Hid (txMay r.txs[k] = false → r.txs.all txMay = false) := fun ht => by
                rw [Bool.eq_false_iff]
                intro h
                have := (List.all_eq_true.1 h) _ (List.getElem_mem hlt)
                rw [ht] at this
                cases this
              generalize r.txs[k] = t at *
              obtain ⟨t0, t1, t2, t3⟩ := t
              obtain ⟨p0, p1, p2, p3⟩ := g1
              simp only at p0 p1 p2 p3
              obtain ⟨Z, HZ⟩ : ∃ Z, Hid (txB t0 = Z) := ⟨_, rfl⟩
              have HU1 : Hid (∀ wx, Calls Try.prog 31 #[.int .i64 t0] wx fun e w' => e = .returned (.bool Z) ∧ w' = wx) := fun wx => by
                have := HU.out t0 wx
                rw [HZ.out] at this
                exact this
              have HM : Hid (txMay (t0, t1, t2, t3) = (Z && decide (1 ≤ t1 ∧ t1 ≤ 3))) := by show _ = _; rw [tx_split, HZ.out]
              rw [HM.out] at HT1 HT2
              clear HM HZ HU
              go_wp2_with fail
              refine (HU1.out _).mono ?_
              rintro e w3 ⟨rfl, hw3⟩
              obtain rfl := hw3.symm
              cases Z with
              | false =>
                have HM : Hid (R = false) := HR2.out.trans (HT2.out rfl)
                clear HT1 HT2
                go_wp2_with fail
                go_ret
                exact ⟨ret_bool HM.out.symm, HBL.out⟩
              | true =>
                by_cases hb : 1 ≤ t1 ∧ t1 ≤ 3
                · have v1 : decide (t1 < 1) = false := by simp; omega
                  have v2 : decide (3 < t1) = false := by simp; omega
                  have HM := hidr (HT1.out (by rw [decide_eq_true hb]; rfl))
                  clear hb HT1 HT2
                  go_wp2_with fail
                  go_roundw
                  case rel => exact ⟨k + 1, by go_num, by omega, trivial, HM⟩
                  case measure => simp [intOf]; omega
                · have HM : Hid (R = false) := HR2.out.trans (HT2.out (by rw [decide_eq_false hb]; rfl))
                  clear HT1 HT2
                  by_cases hb1 : t1 < 1
                  · go_wp2_with fail
                    go_ret
                    exact ⟨ret_bool HM.out.symm, HBL.out⟩
                  · have v2 : decide (3 < t1) = true := by simp; omega
                    have v1 : decide (t1 < 1) = false := by simp; omega
                    clear hb hb1
                    go_wp2_with fail
                    go_ret
                    exact ⟨ret_bool HM.out.symm, HBL.out⟩
            · have d1 : decide ((k : Int) < (r.txs.length : Int)) = false := by simp; omega
              have HM : Hid (R = true) := by
                show _ = _
                rw [HR2.out, List.all_eq_true]
                intro x hx
                obtain ⟨i, hi, rfl⟩ := List.getElem_of_mem hx
                exact HA.out i hi (by omega)
              go_wp2_with fail
              go_ret
              exact ⟨ret_bool HM.out.symm, HBL.out⟩

set_option maxHeartbeats 3200000 in
set_option maxRecDepth 8000 in
theorem rmay_else (r : RecV) (ta da : Option Addr) (tc dc : Nat) (w : World) (h : r.Ok w ta da) (hx : txB r.tx = true) (k1 : ¬ r.kind = 1) (k2 : ¬ r.kind = 2) (k7 : ¬ (3 ≤ r.kind ∧ r.kind ≤ 7)) (k8 : ¬ r.kind = 8) :
    Calls Try.prog 10 #[.agg (r.cells ta da tc dc)] w fun e w' => e = .returned (.bool (rmayB r)) ∧ Below w.heap.size w w' := by
  obtain ⟨R, HR⟩ : ∃ R, Hid (rmayB r = R) := ⟨_, rfl⟩
  rw [HR.out]
  obtain ⟨W, HW⟩ : ∃ W, Hid (W = w.alloc (.cells (r.cells ta da tc dc) 43)) := ⟨_, rfl⟩
  have HB : Hid (Below w.heap.size w W ∧ w.heap.size < W.heap.size ∧ BlkR W w.heap.size (r.cells ta da tc dc) 43) := by rw [HW.out]; exact ⟨(Below.refl _ _).alloc (Nat.le_refl _) _, by simp, heap_alloc_new w _⟩
  have HPAR : Hid (r.cells ta da tc dc = #[.int .i64 r.kind, .int .i64 r.tx, .int .u64 r.prev, .int .u64 r.next, .int .u32 r.page, .int .i64 r.op.kind, .int .i64 r.op.at', .string r.op.S, .string r.op.old, .int .i64 r.undo, .int .i64 r.index, .string r.key, .int .u32 r.rpage, .int .i64 r.rslot, .bool r.live, .slice ta r.txs.length tc, .slice da r.dirty.length dc]) := rfl
  have htl := h.tlen
  have hdl := h.dlen
  have hnx := h.next
  have HTX := hidr h.txs
  have HU : Hid (∀ n wx, Calls Try.prog 31 #[.int .i64 n] wx fun e w' => e = .returned (.bool (txB n)) ∧ w' = wx) := fun n wx => rtx_any n wx
  have HCH : Hid (∀ wx, Calls Try.prog 32 #[.agg (r.cells ta da tc dc)] wx fun e w' => e = .returned (.bool (rchangeB r)) ∧ Below wx.heap.size wx w') := fun wx => rchange_any r (.slice ta r.txs.length tc) (.slice da r.dirty.length dc) wx h.op h.key h.page h.rpage
  have HBA : Hid (∀ wx, Calls Try.prog 33 #[.agg (r.cells ta da tc dc)] wx fun e w' => e = .returned (.bool (bareB r)) ∧ Below wx.heap.size wx w') := fun wx => rbare_any r (.slice ta r.txs.length tc) (.slice da r.dirty.length dc) wx
  clear h
  unfold rmayB at HR
  have HX : Hid (txB r.tx = true) := hx
  clear hx
  have Hk1 := hidr k1
  clear k1
  have Hk2 := hidr k2
  clear k2
  have Hk7 := hidr k7
  clear k7
  have Hk8 := hidr k8
  clear k8
  obtain ⟨C, HC⟩ : ∃ C, Hid (rchangeB r = C) := ⟨_, rfl⟩
  obtain ⟨Y, HY⟩ : ∃ Y, Hid (bareB r = Y) := ⟨_, rfl⟩
  rw [HX.out, HC.out, HY.out] at HR
  rw [HC.out] at HCH
  rw [HY.out] at HBA
  have HU0 : Hid (∀ wx, Calls Try.prog 31 #[.int .i64 r.tx] wx fun e w' => e = .returned (.bool true) ∧ w' = wx) := fun wx => by
    have := HU.out r.tx wx
    rw [HX.out] at this
    exact this
  clear HX HC HY
  rw [HPAR.out]
  go_enter Try.func10, Try.ntmps10
  go_upto_region 1 with fail
  rw [← HPAR.out, show w.alloc (.cells (r.cells ta da tc dc) 43) = W from HW.out.symm]
  have z0 : W.cell? ⟨w.heap.size, 0, none⟩ = some (.int .i64 r.kind) := HB.out.2.2.cell 0
  have z1 : W.cell? ⟨w.heap.size, 1, none⟩ = some (.int .i64 r.tx) := HB.out.2.2.cell 1
  have z3 : W.cell? ⟨w.heap.size, 3, none⟩ = some (.int .u64 r.next) := HB.out.2.2.cell 3
  have z15 : W.cell? ⟨w.heap.size, 15, none⟩ = some (.slice ta r.txs.length tc) := HB.out.2.2.cell 15
  have z16 : W.cell? ⟨w.heap.size, 16, none⟩ = some (.slice da r.dirty.length dc) := HB.out.2.2.cell 16
  clear HW HPAR
  go_wp2_with fail
  refine (HU0.out _).mono ?_
  rintro e w1 ⟨rfl, hw1⟩
  subst hw1
  have k1 := Hk1.out
  clear Hk1
  have k2 := Hk2.out
  clear Hk2
  have k7 := Hk7.out
  clear Hk7
  have k8 := Hk8.out
  clear Hk8
  rw [Bool.true_and] at HR
  have HV : Hid (R = false) := by show _ = _; rw [← HR.out, if_neg k1, if_neg k2, if_neg k7, if_neg k8, Bool.and_false]
  clear HR HCH HBA
  have j1 : (r.kind == 1) = false := by rw [beq_eq_false_iff_ne]; exact k1
  have j2 : (r.kind == 2) = false := by rw [beq_eq_false_iff_ne]; exact k2
  have j3 : (r.kind == 3) = false := by rw [beq_eq_false_iff_ne]; omega
  have j4 : (r.kind == 4) = false := by rw [beq_eq_false_iff_ne]; omega
  have j5 : (r.kind == 5) = false := by rw [beq_eq_false_iff_ne]; omega
  have j6 : (r.kind == 6) = false := by rw [beq_eq_false_iff_ne]; omega
  have j7 : (r.kind == 7) = false := by rw [beq_eq_false_iff_ne]; omega
  have j8 : (r.kind == 8) = false := by rw [beq_eq_false_iff_ne]; exact k8
  have m2 : (r.kind != 2) = true := by rw [bne_iff_ne]; exact k2
  have m3 : (r.kind != 3) = true := by rw [bne_iff_ne]; omega
  have m8 : (r.kind != 8) = true := by rw [bne_iff_ne]; exact k8
  clear k1 k2 k7 k8
  go_wp2_with fail
  all_goals go_ret
  all_goals
    exact ⟨ret_bool HV.out.symm, HB.out.1⟩


theorem rmay_any (r : RecV) (ta da : Option Addr) (tc dc : Nat) (w : World) (h : r.Ok w ta da) :
    Calls Try.prog 10 #[.agg (r.cells ta da tc dc)] w fun e w' => e = .returned (.bool (mayR r)) ∧ Below w.heap.size w w' := by
  rw [← rmay_eq]
  cases hx : txB r.tx with
  | false => exact rmay_notx r ta da tc dc w h hx
  | true =>
    by_cases k1 : r.kind = 1
    · exact rmay_one r ta da tc dc w h hx k1
    by_cases k2 : r.kind = 2
    · exact rmay_two r ta da tc dc w h hx k1 k2
    by_cases k7 : 3 ≤ r.kind ∧ r.kind ≤ 7
    · have k7' : r.kind = 3 ∨ r.kind = 4 ∨ r.kind = 5 ∨ r.kind = 6 ∨ r.kind = 7 := by omega
      rcases k7' with k | k | k | k | k
      · exact rmay_k3 r ta da tc dc w h hx k1 k2 k7 k
      · exact rmay_k4 r ta da tc dc w h hx k1 k2 k7 k
      · exact rmay_k5 r ta da tc dc w h hx k1 k2 k7 k
      · exact rmay_k6 r ta da tc dc w h hx k1 k2 k7 k
      · exact rmay_k7 r ta da tc dc w h hx k1 k2 k7 k
    by_cases k8 : r.kind = 8
    · exact rmay_eight r ta da tc dc w h hx k1 k2 k7 k8
    · exact rmay_else r ta da tc dc w h hx k1 k2 k7 k8

end Go.Proofs.Ytndfjjcflbpdnaa
